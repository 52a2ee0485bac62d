/-
  Groups applied: the model's l6Hunks, l6All, GroupHunks and ApplyGroups.
-/
import Derived.Test.YtkamenidgkjodaaGreatDoorQbHSame
import Derived.Test.YtkamenidgkjodaaGreatDoorQbGGoodT
set_option linter.unusedSimpArgs false
set_option linter.unusedVariables false
namespace Go.Proofs.YtkamenidgkjodaaGreatDoor
open Go.RowKit Go.ChangeShapes Go.WideShapes M

theorem step_strsU {w : World} {ops : Array Oper} {o : Oper} {a : Act} {K : Act → World → Prop} {Q : Exit → Act → World → Prop} {E : Prop} (s x : Operand) (base : Nat) (v : Value) (l : List ByteArray) (hown : OwnV w base v l) (A : Option Addr) (m c : Nat) (r : List ByteArray) (hr : Strs w A m r)
    (hbound : l.length + m ≤ 4294967296) (hbase : base ≤ w.heap.size) (hgd : Region.wanted o (yielded ops a.tmps) = true) (ho : o.op = .call { callee := .builtin .append, args := #[s, x], argTypes := #[33, 33] }) (hs : a.eval s = v) (hx : a.eval x = .slice A m c)
    (h : ∀ v' w', OwnV w' base v' (l ++ r) → w.grownBy w' v.ownBlock → (v'.ownBlock = v.ownBlock ∨ v'.ownBlock = some w.heap.size) → K (a.put o.dst v') w') : if Region.wanted o (yielded ops a.tmps) = true then Oper.wp Tryz.prog o a w K Q else E := by
  obtain ⟨i, h1, h2, h3, h4⟩ := info_parts str_info
  exact step_app Tryz.underlying33 h1 h2 h3 h4 s x base v l hown A m c r hr hbound hbase hgd ho hs hx h

theorem two_get {α : Type} {l r : List α} {k : Nat} {x : α} (h : (l ++ r)[k]? = some x) : (k < l.length ∧ l[k]? = some x) ∨ (l.length ≤ k ∧ r[k - l.length]? = some x) := by
  by_cases hk : k < l.length
  · exact .inl ⟨hk, by rw [← List.getElem?_append_left hk]; exact h⟩
  · exact .inr ⟨by omega, by rw [← List.getElem?_append_right (by omega)]; exact h⟩
set_option maxRecDepth 100000 in
theorem run_app_hks {w : World} (ty : TypeId) (base b2 : Nat) (v : Value) (l : List Hk) (vs : List Value) (hown : OwnH w base v l vs) (A : Option Addr) (n c : Nat) (r : List Hk) (rs : List Value) (h : OwnH w b2 (.slice A n c) r rs) (hb2 : base ≤ b2) (hne : ∀ g, Blk v vs g → ¬ Blk (.slice A n c) rs g) (hbound : l.length + n ≤ 1048576) (hbase : base ≤ w.heap.size) :
    ∃ v' w', (Builtin.append_ #[34, 34] ty #[v, .slice A n c]).run Tryz.prog w = .ok v' w' ∧ OwnH w' base v' (l ++ r) (vs ++ rs) ∧ w.grownBy w' v.ownBlock ∧ (v'.ownBlock = v.ownBlock ∨ v'.ownBlock = some w.heap.size) := by
  obtain ⟨i, q1, q2, q3, q4⟩ := info_parts hk_info
  have hlen : r.length = n := h.hks.len
  obtain ⟨xs, h1, h2⟩ := h.row
  obtain ⟨ys, k1, k2⟩ := hown.row
  rcases h1.2 with ⟨hv, hz⟩ | ⟨g, cap, cur, hv, _⟩
  · injection hv with e1 e2 e3
    subst e1 e2 e3
    have ho : r = [] := List.eq_nil_of_length_eq_zero hz
    have hvs : rs = [] := List.eq_nil_of_length_eq_zero (by rw [h.len, hz])
    subst ho hvs
    exact ⟨v, w, run_append_owned_none w base _ ty 95 i 3 Tryz.underlying34 q1 v l.length ys k1, by simpa using hown, grown_refl _ _, .inl rfl⟩
  · injection hv with e1 e2 e3
    subst e1
    obtain ⟨v', w', hrun, hr, hg, _, hat⟩ := run_append_own_at (P := Tryz.prog) w base 34 ty 95 i _ 3 40 Tryz.underlying34 q1 q2 q3 q4 (by simp [Value.cells]) (by omega) v l.length ys k1 ⟨g, 0, none⟩ n c xs (by rw [h1.1, hlen]) (h1.cells rfl) (fun t ht => by
      obtain ⟨j, hj⟩ := List.mem_iff_getElem?.1 ht
      have hjl : j < xs.length := (List.getElem?_eq_some_iff.1 hj).1
      have hxl := h1.1
      have hk : j / 3 < r.length := by omega
      obtain ⟨x, u, hx, hu⟩ := h.get_ hk
      obtain ⟨a0, a1, a2⟩ := h2 (j / 3) x u hx hu
      have h3 : j = j / 3 * 3 ∨ j = j / 3 * 3 + 1 ∨ j = j / 3 * 3 + 2 := by omega
      rcases h3 with e | e | e
      · rw [e, a0] at hj; injection hj with hj; subst hj; rfl
      · rw [e, a1] at hj; injection hj with hj; subst hj; rfl
      · rw [e, a2] at hj; injection hj with hj; subst hj
        obtain ⟨_, _, e, _⟩ := (h.news _ x u hx hu).form rfl
        rw [e]; rfl) (by unfold maxLen; omega) (by omega) hbase
    have hyl := k1.1
    have hown' : ∀ b, v.ownBlock = some b → ¬ Blk (.slice (some ⟨g, 0, none⟩) n c) rs b := fun b e => hne b (.inl e)
    refine ⟨v', w', hrun, ⟨by simp [hown.len, h.len], ⟨ys ++ xs, by rw [List.length_append, hlen]; exact hr, fun k x u hx hu => ?_⟩, fun k x u hx hu => ?_, fun k u b hu e => ?_, fun a b u u' b' hu hu' e e' => ?_, fun x hx => ?_⟩, hg, hat⟩
    · rcases two_get hx with ⟨hk, hx⟩ | ⟨hk, hx⟩
      · rcases two_get hu with ⟨_, hu⟩ | ⟨hk2, _⟩
        · obtain ⟨a0, a1, a2⟩ := k2 k x u hx hu
          rw [List.getElem?_append_left (by omega), List.getElem?_append_left (by omega), List.getElem?_append_left (by omega)]
          exact ⟨a0, a1, a2⟩
        · rw [hown.len] at hk2; omega
      · rcases two_get hu with ⟨hk2, _⟩ | ⟨_, hu⟩
        · rw [hown.len] at hk2; omega
        · rw [hown.len] at hu
          obtain ⟨a0, a1, a2⟩ := h2 _ x u hx hu
          rw [List.getElem?_append_right (by omega), List.getElem?_append_right (by omega), List.getElem?_append_right (by omega), hyl, show k * 3 - l.length * 3 = (k - l.length) * 3 by omega, show k * 3 + 1 - l.length * 3 = (k - l.length) * 3 + 1 by omega, show k * 3 + 2 - l.length * 3 = (k - l.length) * 3 + 2 by omega]
          exact ⟨a0, a1, a2⟩
    · rcases two_get hx with ⟨hk, hx⟩ | ⟨hk, hx⟩
      · rcases two_get hu with ⟨_, hu⟩ | ⟨hk2, _⟩
        · exact (hown.news k x u hx hu).kept hg (fun b e e2 => hown.apart k u b hu e2 e)
        · rw [hown.len] at hk2; omega
      · rcases two_get hu with ⟨hk2, _⟩ | ⟨_, hu⟩
        · rw [hown.len] at hk2; omega
        · rw [hown.len] at hu
          exact ((h.news _ x u hx hu).more hb2).kept hg (fun b e e2 => hown' b e (.inr ⟨_, u, hu, e2⟩))
    · intro e2
      rcases two_get hu with ⟨_, hu⟩ | ⟨_, hu⟩
      · rcases hat with p | p
        · rw [p] at e2; exact hown.apart k u b hu e e2
        · rw [p] at e2; injection e2 with e2; have := (hown.lt (.inr ⟨k, u, hu, e⟩)).2; omega
      · rcases hat with p | p
        · rw [p] at e2; exact hown' b e2 (.inr ⟨_, u, hu, e⟩)
        · rw [p] at e2; injection e2 with e2; have := (h.lt (.inr ⟨_, u, hu, e⟩)).2; omega
    · rcases two_get hu with ⟨_, h3⟩ | ⟨ha, h3⟩
      · rcases two_get hu' with ⟨_, h4⟩ | ⟨hb, h4⟩
        · exact hown.apart2 a b u u' b' h3 h4 e e'
        · exact absurd (.inr ⟨_, u', h4, e'⟩) (hne b' (.inr ⟨a, u, h3, e⟩))
      · rcases two_get hu' with ⟨_, h4⟩ | ⟨hb, h4⟩
        · exact absurd (.inr ⟨_, u, h3, e⟩) (hne b' (.inr ⟨b, u', h4, e'⟩))
        · have := h.apart2 _ _ u u' b' h3 h4 e e'; omega
    · rcases List.mem_append.1 hx with h5 | h5
      · exact hown.ints x h5
      · exact h.ints x h5
theorem wpList_hks {w : World} {ops : Array Oper} {rest : List Oper} {o : Oper} {a : Act} {Q : Exit → Act → World → Prop} (s y : Operand) (base b2 : Nat) (v : Value) (l : List Hk) (vs : List Value) (hown : OwnH w base v l vs) (A : Option Addr) (n c : Nat) (r : List Hk) (rs : List Value) (h : OwnH w b2 (.slice A n c) r rs) (hb2 : base ≤ b2) (hne : ∀ g, Blk v vs g → ¬ Blk (.slice A n c) rs g) (hbound : l.length + n ≤ 1048576) (hbase : base ≤ w.heap.size)
    (hgd : Region.wanted o (yielded ops a.tmps) = true) (ho : o.op = .call { callee := .builtin .append, args := #[s, y], argTypes := #[34, 34] }) (hs : a.eval s = v) (hy : a.eval y = .slice A n c)
    (hQ : ∀ v' w', OwnH w' base v' (l ++ r) (vs ++ rs) → w.grownBy w' v.ownBlock → wpList Tryz.prog ops Q rest (a.put o.dst v') w') : wpList Tryz.prog ops Q (o :: rest) a w := by
  refine wpList_wanted hgd fun K hK => ?_
  obtain ⟨v', w', hrun, k1, k2, _⟩ := run_app_hks o.type base b2 v l vs hown A n c r rs h hb2 hne hbound hbase
  unfold Oper.wp execOp
  simp only [ho, resolve, invoke, builtin, Sem.run_bind, Sem.run_pure, Result.andThen_ok, List.map_toArray, List.map_cons, List.map_nil, hs, hy, hrun]
  exact hK _ _ (hQ v' w' k1 k2)

theorem OwnH.setNew {w w' : World} {base g n cap k : Nat} {l : List Hk} {vs : List Value} {x : Hk} {u u' : Value} {r : List ByteArray} (h : OwnH w base (.slice (some ⟨g, 0, none⟩) n cap) l vs) (hx : l[k]? = some x) (hu : vs[k]? = some u) (hw : w.grownBy w' u.ownBlock) (p : u'.ownBlock = u.ownBlock ∨ u'.ownBlock = some w.heap.size) (ho : OwnV w' base u' r) :
    OwnH (w'.setCell ⟨g, k * 3 + 2, none⟩ u') base (.slice (some ⟨g, 0, none⟩) n cap) (l.set k ⟨x.at_, x.gone, r⟩) (vs.set k u') := by
  have hn : l.length = n := h.hks.len
  have hk : k < n := by rw [← hn]; exact (List.getElem?_eq_some_iff.1 hx).1
  have hw2 : Wrote (fun i => u.ownBlock = some i) w w' := Wrote.of_grown hw (fun _ e => e)
  obtain ⟨xs, h1, h2⟩ := h.row
  have hxl := h1.1
  have hlen := h.len
  have hgl : g < w.heap.size := (h.lt (.inl rfl)).2
  have h1' := ownsRow_wrote h1 hw2 (fun g e e2 => h.apart k u g hu e2 e)
  rw [hn] at h1'
  have s3 := (h1'.stored (k * 3 + 2) u').1
  have hs : Wrote (fun i => i = g) w' (w'.setCell ⟨g, k * 3 + 2, none⟩ u') := Wrote.set _ w' _ _ rfl
  have hu' : ∀ b, u'.ownBlock = some b → b ≠ g := fun b e e2 => by
    subst e2
    rcases p with p | p
    · rw [p] at e; exact h.apart k u b hu e rfl
    · rw [p] at e; injection e with e; omega
  refine ⟨by simp [hlen], ⟨_, by rw [List.length_set, hn]; exact s3, fun j y t hy ht => ?_⟩, fun j y t hy ht => ?_, fun j t b ht e => ?_, fun i j t t' b ht ht' e e' => ?_, fun y hy => ?_⟩
  · rcases set_get hy with ⟨rfl, rfl⟩ | ⟨hne, hy⟩
    · rcases set_get ht with ⟨_, rfl⟩ | ⟨hne, ht⟩
      · obtain ⟨q0, q1, q2⟩ := h2 k x u hx hu
        exact ⟨set_ne q0 (by omega), set_ne q1 (by omega), set_eq (by omega)⟩
      · exact absurd rfl hne
    · rcases set_get ht with ⟨e, rfl⟩ | ⟨hne, ht⟩
      · exact absurd e hne
      · obtain ⟨q0, q1, q2⟩ := h2 j y t hy ht
        exact ⟨set_ne q0 (by omega), set_ne q1 (by omega), set_ne q2 (by omega)⟩
  · rcases set_get hy with ⟨rfl, rfl⟩ | ⟨hne, hy⟩
    · rcases set_get ht with ⟨_, rfl⟩ | ⟨hne, ht⟩
      · exact ho.wrote hs (fun b e e2 => hu' b e e2)
      · exact absurd rfl hne
    · rcases set_get ht with ⟨e, rfl⟩ | ⟨hne, ht⟩
      · exact absurd e hne
      · exact ((h.news j y t hy ht).wrote hw2 (fun b e e2 => hne (h.apart2 k j u t b hu ht e2 e))).wrote hs (fun b e e2 => h.apart j t b ht e (by rw [e2]; rfl))
  · rcases set_get ht with ⟨_, rfl⟩ | ⟨hne, ht⟩
    · intro e2
      have : b = g := by simpa [Value.ownBlock] using e2.symm
      exact hu' b e this
    · exact h.apart j t b ht e
  · have hx2 : ∀ j t, k ≠ j → vs[j]? = some t → t.ownBlock = some b → u'.ownBlock = some b → False := fun j t hne ht e1 e2 => by
      rcases p with p | p
      · rw [p] at e2; exact hne (h.apart2 k j u t b hu ht e2 e1)
      · rw [p] at e2; injection e2 with e2; have := (h.lt (.inr ⟨j, t, ht, e1⟩)).2; omega
    rcases set_get ht with ⟨rfl, rfl⟩ | ⟨hne, h3⟩
    · rcases set_get ht' with ⟨rfl, rfl⟩ | ⟨hne', h4⟩
      · rfl
      · exact (hx2 j t' hne' h4 e' e).elim
    · rcases set_get ht' with ⟨rfl, rfl⟩ | ⟨hne', h4⟩
      · exact (hx2 i t hne h3 e e').elim
      · exact h.apart2 i j t t' b h3 h4 e e'
  · rcases List.mem_or_eq_of_mem_set hy with h5 | h5
    · exact h.ints y h5
    · rw [h5]; exact h.ints x (List.mem_of_getElem? hx)

theorem runs_keep {rows : List Rw} {k : Nat} {x : Rw} (h : rows[k]? = some x) (hk : x.kind = 1) (a : Int) (cur : Option Hk) : runsF a cur (rows.drop k) = cur.toList ++ runsF (a + 1) none (rows.drop (k + 1)) := by
  rw [drop_at h, runsF, if_pos hk]
theorem runs_gone {rows : List Rw} {k : Nat} {x : Rw} (h : rows[k]? = some x) (hk : x.kind = 2) (a : Int) (cur : Option Hk) : runsF a cur (rows.drop k) = runsF (a + 1) (some ⟨(openH a cur).at_, (openH a cur).gone + 1, (openH a cur).new⟩) (rows.drop (k + 1)) := by
  rw [drop_at h, runsF, if_neg (by omega), if_pos hk]
theorem runs_new {rows : List Rw} {k : Nat} {x : Rw} (h : rows[k]? = some x) (h1 : x.kind ≠ 1) (h2 : x.kind ≠ 2) (a : Int) (cur : Option Hk) : runsF a cur (rows.drop k) = runsF a (some ⟨(openH a cur).at_, (openH a cur).gone, (openH a cur).new ++ [x.line]⟩) (rows.drop (k + 1)) := by
  rw [drop_at h, runsF, if_neg h1, if_neg h2]
theorem cell_past2 {w w' : World} {row : Option Nat} {b o : Nat} {x : Value} (hg : w.grownBy w' row) (h : w.cell? ⟨b, o, none⟩ = some x) (hne : row ≠ some b) : w'.cell? ⟨b, o, none⟩ = some x := by
  have hb : b < w.heap.size := by
    by_cases hb : b < w.heap.size
    · exact hb
    · have : w.heap[b]? = none := Array.getElem?_eq_none (by omega)
      simp [World.cell?, this] at h
  have e := hg.block b hb (fun e => hne e.symm)
  simpa [World.cell?, e] using h
theorem last_getU {α : Type} (l : List α) (x : α) : (l ++ [x])[l.length]? = some x := by simp
theorem last_setU {α : Type} (l : List α) (x y : α) : (l ++ [x]).set l.length y = l ++ [y] := by simp

set_option maxHeartbeats 8000000 in
set_option maxRecDepth 100000 in
theorem l6Hunks_any (A : Option Addr) (n c : Nat) (x : Gp) (w : World) (hl : Rws w A n x.rows) (hx : groupB x = true) :
    Calls Tryz.prog 144 #[.agg #[.int .i64 x.at_, .int .i64 x.to_, .slice A n c]] w fun e w' => ∃ v vs, e = .returned v ∧ OwnH w' w.heap.size v (gpHunks x) vs ∧ Below w.heap.size w w' := by
  obtain ⟨hn80, a0, a9, _, _, h3, h2⟩ := groupB_len hx
  have hn : n ≤ 80 := by rw [← hl.len]; exact hn80
  have HL := Lib.hid hl.len
  have HR := Lib.hid hl
  obtain ⟨F, HF⟩ : ∃ F, Hid (x.to_ = F) := ⟨_, rfl⟩
  obtain ⟨T, HT⟩ : ∃ T, Hid (x.at_ = T) := ⟨_, rfl⟩
  have HGP := Lib.hid (show gpHunks x = runsF T none x.rows by rw [← HT.out]; rfl)
  rw [HT.out, HF.out]
  rw [HT.out] at a0 a9
  obtain ⟨rows, HRW⟩ : ∃ rows, Hid (x.rows = rows) := ⟨_, rfl⟩
  rw [HRW.out] at HL HR HGP
  rw [HGP.out]
  clear hx hn80 h3 h2 hl HGP HRW
  obtain ⟨W0, HW0⟩ : ∃ W0, Hid (W0 = w.alloc (.cells #[.int .i64 T, .int .i64 F, .slice A n c] 60)) := ⟨_, rfl⟩
  have HB0 := Lib.hid (show Below w.heap.size w W0 by rw [HW0.out]; exact below_alloc _ _)
  have p0 : W0.cell? ⟨w.heap.size, 0, none⟩ = some (.int .i64 T) := by rw [HW0.out]; simp
  have p2 : W0.cell? ⟨w.heap.size, 2, none⟩ = some (.slice A n c) := by rw [HW0.out]; simp
  go_enter Tryz.func144, Tryz.ntmps144
  go_wp2
  rw [← HW0.out]
  go_loopw [3, 4, 5, 14] (fun lv av ov i w' => ∃ (v : Value) (vs : List Value) (done : List Hk) (cur : Option Hk) (a : Int) (k : Nat), v = lv ∧ av = .int .i64 a ∧ ov = .bool cur.isSome ∧ i = .int .i64 (k : Int) ∧ k ≤ n ∧ 0 ≤ a ∧ a ≤ 999 + (k : Int) ∧ Hid (OwnH w' w.heap.size v (done ++ cur.toList) vs) ∧ Hid (done ++ runsF a cur (rows.drop k) = runsF T none rows) ∧ Hid ((done ++ cur.toList).length ≤ k) ∧ Hid (∀ h, cur = some h → 0 ≤ h.gone ∧ h.gone ≤ k ∧ h.new.length ≤ k) ∧ Below w.heap.size w w') (fun _ _ _ i _ => n - (intOf i).toNat)
  case atStart => exact ⟨_, [], [], none, T, 0, rfl, rfl, rfl, rfl, by omega, by omega, by omega, Lib.hid OwnH.nil_, rfl, Lib.hid (by simp), Lib.hid (fun h e => by cases e), HB0.out⟩
  case round =>
    obtain ⟨v, vs, done, cur, a, k, rfl, rfl, rfl, rfl, hk, ha0, ha9, HO, HS, HLE, HC, hb⟩ := hrel
    by_cases hlt : k < n
    · obtain ⟨b', off', y, rfl, hy, c0, c1, hok⟩ := (HR.out.below hb).at_ hlt
      have HY := Lib.hid hy
      have HYO := Lib.hid hok
      obtain ⟨W, HW⟩ : ∃ W, Hid (W = wr.alloc (.cells #[.int .i64 y.kind, .string y.line] 62)) := ⟨_, rfl⟩
      have HB := Lib.hid (show Below wr.heap.size wr W by rw [HW.out]; exact below_alloc _ _)
      have HWS := Lib.hid (show W.heap.size = wr.heap.size + 1 by rw [HW.out]; simp)
      have e0 : W.cell? ⟨wr.heap.size, 0, none⟩ = some (.int .i64 y.kind) := by rw [HW.out]; simp
      have e1 : W.cell? ⟨wr.heap.size, 1, none⟩ = some (.string y.line) := by rw [HW.out]; simp
      have hbW := Lib.hid (hb.next HB.out)
      have hoW := Lib.hid (HO.out.below HB.out)
      have hw1 : IntKind.i64.wrap (a + 1) = a + 1 := by rw [IntKind.wrap_i64]; omega
      clear hy hok
      by_cases k1 : y.kind = 1
      · have q1 : (y.kind == 1) = true := by simp [k1]
        have hs := Lib.hid (runs_keep HY.out k1 a cur)
        clear k1
        go_wp2
        rw [← HW.out]
        go_roundw
        case rel => exact ⟨v, vs, done ++ cur.toList, none, a + 1, k + 1, rfl, rfl, rfl, by go_num, by omega, by omega, by omega, Lib.hid (by simpa using hoW.out), Lib.hid (by rw [← HS.out, hs.out, List.append_assoc]), Lib.hid (by have := HLE.out; simp at this ⊢; omega), Lib.hid (fun h e => by cases e), hbW.out⟩
        case measure => simp [intOf]; omega
      have q1 : (y.kind == 1) = false := by simp [k1]
      obtain ⟨q, HQD⟩ : ∃ q, Hid (done.length = q) := ⟨_, rfl⟩
      have hqk : Hid (q ≤ k) := Lib.hid (by have := HLE.out; rw [List.length_append, HQD.out] at this; omega)
      cases cur with
      | some hh =>
        obtain ⟨hg0, hgk, hnk⟩ := HC.out hh rfl
        have hlenq : Hid ((done ++ (some hh).toList).length = q + 1) := Lib.hid (by rw [List.length_append, HQD.out]; rfl)
        obtain ⟨A9, k9, rfl, h91, _⟩ := hoW.out.form hlenq.out
        obtain ⟨g7, y7, a2, m2, c2, rfl, hg70, hg71, hy7, hu7, hmc2, f0, f1, f2, oy, iy0, iy1, hfz⟩ := hoW.out.at_ (k := q) (by omega)
        have hyq : y7 = hh := by rw [← HQD.out] at hy7; rw [show (some hh).toList = [hh] from rfl, last_getU] at hy7; injection hy7 with hy7; exact hy7.symm
        subst hyq
        have HU7 := Lib.hid hu7
        have OY := Lib.hid oy
        have OW := Lib.hid (show OwnH W w.heap.size (.slice (some ⟨g7, 0, none⟩) (q + 1) k9) (done ++ [y7]) vs from hoW.out)
        have f0' := f0
        have f1' := f1
        have f2' := f2
        have fz' := hfz
        rw [HW.out] at f0' f1' f2' fz'
        have i1 : (q : Int) + 1 - 1 = (q : Int) := by omega
        have i2 : IntKind.i64.wrap (q : Int) = (q : Int) := by rw [IntKind.wrap_i64]; have := hqk.out; omega
        have i3 : (q : Int) < (q : Int) + 1 := by omega
        have hwg : IntKind.i64.wrap (y7.gone + 1) = y7.gone + 1 := by rw [IntKind.wrap_i64]; omega
        clear hy7 hu7 oy hg70 iy0
        by_cases k2 : y.kind = 2
        · have q2 : (y.kind == 2) = true := by simp [k2]
          have hs := Lib.hid (runs_gone HY.out k2 a (some y7))
          have HN := Lib.hid (show OwnH (W.setCell ⟨g7, q * 3 + 1, none⟩ (.int .i64 (y7.gone + 1))) w.heap.size (.slice (some ⟨g7, 0, none⟩) (q + 1) k9) (done ++ [⟨y7.at_, y7.gone + 1, y7.new⟩]) vs by
            have := OW.out.setGone (k := q) (x := y7) (by rw [← HQD.out]; exact last_getU _ _) (y7.gone + 1) ⟨by omega, by omega⟩
            rw [← HQD.out, last_setU, HQD.out] at this
            exact this)
          clear k2 k1
          go_wp2
          rw [← HW.out]
          go_roundw
          case rel => exact ⟨_, vs, done, some ⟨y7.at_, y7.gone + 1, y7.new⟩, a + 1, k + 1, rfl, rfl, rfl, by go_num, by omega, by omega, by omega, HN, Lib.hid (by rw [← HS.out, hs.out]; rfl), Lib.hid (by rw [List.length_append, HQD.out]; have := hqk.out; simp; omega), Lib.hid (fun h e => by injection e with e; subst e; exact ⟨by dsimp only; omega, by dsimp only; omega, by dsimp only; omega⟩), hbW.out.setCell (by have := (OW.out.lt (.inl rfl)).1; omega) _⟩
          case measure => simp [intOf]; omega
        · have q2 : (y.kind == 2) = false := by simp [k2]
          have hs := Lib.hid (runs_new HY.out k1 k2 a (some y7))
          have BA := Lib.hid (((below_alloc W (.cells #[.string y.line] 9)).next (Below.refl _ _).drew))
          have OA := Lib.hid (OW.out.below BA.out)
          have UA := Lib.hid (OY.out.below BA.out)
          have LA := Lib.hid (show Strs (W.alloc (.cells #[.string y.line] 9)).drew (some ⟨W.heap.size, 0, none⟩) 1 [y.line] from (strs_one W y.line HYO.out.line).below (Below.refl _ _).drew)
          have hbnd : y7.new.length + 1 ≤ 4294967296 := by omega
          have hbs := Lib.hid (show w.heap.size ≤ (W.alloc (.cells #[.string y.line] 9)).drew.heap.size from (hbW.out.next BA.out).size)
          have HBB := Lib.hid (hbW.out.next BA.out)
          clear k2 k1
          go_wp2
          rw [← HW.out]
          go_region_law (first
            | (refine step_strsU (.tmp 51) (.tmp 54) w.heap.size (.slice a2 m2 c2) y7.new UA.out (some ⟨W.heap.size, 0, none⟩) 1 1 [y.line] LA.out hbnd hbs.out rfl rfl rfl rfl ?_
               intro v8 w8 o8 g8 p8
               obtain ⟨q8, Hq8⟩ : ∃ q, Hid ((y7.new ++ [y.line]).length = q) := ⟨_, rfl⟩
               obtain ⟨A8, k8, rfl, h81, _⟩ := o8.form Hq8.out
               have HN := Lib.hid (OA.out.setNew (k := q) (x := y7) (by rw [← HQD.out]; exact last_getU _ _) HU7.out g8 p8 o8)
               rw [← HQD.out, last_setU, HQD.out] at HN
               have fz8 : ∀ j, w8.frozen? ⟨g7, j, none⟩ = false := fun j => by
                 have hne : (Value.slice a2 m2 c2).ownBlock ≠ some g7 := fun e => OW.out.apart q _ g7 HU7.out e rfl
                 have h1 := g8.block g7 (by have := (OA.out.lt (.inl rfl)).2; exact this) (fun e => hne e.symm)
                 have h2 := (HBB.out.size)
                 have h3 : w8.frozen? ⟨g7, j, none⟩ = (W.alloc (.cells #[.string y.line] 9)).drew.frozen? ⟨g7, j, none⟩ := by unfold World.frozen?; rw [h1]
                 rw [h3]
                 have h4 := (BA.out.block g7 (OW.out.lt (.inl rfl)).2)
                 have h5 : (W.alloc (.cells #[.string y.line] 9)).drew.frozen? ⟨g7, j, none⟩ = W.frozen? ⟨g7, j, none⟩ := by unfold World.frozen?; rw [h4]
                 rw [h5]; exact hfz j
               have f28 := cell_past2 g8 (show (W.alloc (.cells #[.string y.line] 9)).drew.cell? ⟨g7, q * 3 + 2, none⟩ = some (.slice a2 m2 c2) from cell_keep BA.out f2) (fun e => OW.out.apart q _ g7 HU7.out e rfl)
               have B8 := Lib.hid (Below.grown HBB.out g8 HBB.out.size (fun b e => (UA.out.lt e).1)))
            | fail)
          all_goals go_wp2
          all_goals go_roundw
          all_goals first | (case measure => simp [intOf]; omega) | skip
          all_goals exact ⟨_, _, done, some ⟨y7.at_, y7.gone, y7.new ++ [y.line]⟩, a, k + 1, rfl, rfl, rfl, by go_num, by omega, by omega, by omega, HN, Lib.hid (by rw [← HS.out, hs.out]; rfl), Lib.hid (by rw [List.length_append, HQD.out]; have := hqk.out; simp; omega), Lib.hid (fun h e => by injection e with e; subst e; exact ⟨by dsimp only; omega, by dsimp only; omega, by simp; omega⟩), B8.out.setCell (by have := (OW.out.lt (.inl rfl)).1; omega) _⟩
      | none =>
        have OV := Lib.hid (show OwnH W w.heap.size v done vs by simpa using hoW.out)
        have hlenq : Hid ((done ++ [(⟨a, 0, []⟩ : Hk)]).length = q + 1) := Lib.hid (by rw [List.length_append, HQD.out]; rfl)
        have HXO := Lib.hid (show i64ok a ∧ i64ok 0 from ⟨⟨by omega, by omega⟩, ⟨by decide, by decide⟩⟩)
        have BH := Lib.hid (below_alloc W (.cells #[.int .i64 a, .int .i64 0, .slice none 0 0] 95))
        have OVA := Lib.hid (OV.out.below BH.out)
        have hfr := Lib.hid (show ∀ g, (Value.slice none 0 0).ownBlock = some g → ¬ Blk v vs g from fun g e => by simp [Value.ownBlock] at e)
        have ha0 := Lib.hid (show (W.alloc (.cells #[.int .i64 a, .int .i64 0, .slice none 0 0] 95)).cell? ⟨wr.heap.size + 1, 0, none⟩ = some (.int .i64 (⟨a, 0, []⟩ : Hk).at_) by rw [← HWS.out]; simp)
        have ha1 := Lib.hid (show (W.alloc (.cells #[.int .i64 a, .int .i64 0, .slice none 0 0] 95)).cell? ⟨wr.heap.size + 1, 1, none⟩ = some (.int .i64 (⟨a, 0, []⟩ : Hk).gone) by rw [← HWS.out]; simp)
        have ha2 := Lib.hid (show (W.alloc (.cells #[.int .i64 a, .int .i64 0, .slice none 0 0] 95)).cell? ⟨wr.heap.size + 1, 2, none⟩ = some (.slice none 0 0) by rw [← HWS.out]; simp)
        have hdl : done.length ≤ 1048576 := by have := hqk.out; have := HQD.out; omega
        have hbs := Lib.hid (show w.heap.size ≤ (W.alloc (.cells #[.int .i64 a, .int .i64 0, .slice none 0 0] 95)).heap.size from (hbW.out.next BH.out).size)
        have hvn := Lib.hid (show v.ownBlock ≠ some wr.heap.size from fun e => by have := (HO.out.lt (.inl e)).2; omega)
        have i1 : (q : Int) + 1 - 1 = (q : Int) := by omega
        have i2 : IntKind.i64.wrap (q : Int) = (q : Int) := by rw [IntKind.wrap_i64]; have := hqk.out; omega
        have i3 : (q : Int) < (q : Int) + 1 := by omega
        by_cases k2 : y.kind = 2
        · have q2 : (y.kind == 2) = true := by simp [k2]
          have hs := Lib.hid (runs_gone HY.out k2 a none)
          clear k2 k1
          go_wp2_with (first
            | (at_builtin
               rw [← HW.out]
               refine wpList_hk (.tmp 25) (.tmp 28) w.heap.size v done vs OVA.out ⟨a, 0, []⟩ HXO.out (.slice none 0 0) OwnV.nil_ hfr.out (wr.heap.size + 1) ha0.out ha1.out ha2.out hdl hbs.out rfl rfl rfl rfl ?_
               intro v9 w9 o9 g9 p9
               obtain ⟨A9, k9, rfl, h91, _⟩ := o9.form hlenq.out
               obtain ⟨g7, y7, a2, m2, c2, rfl, hg70, hg71, hy7, hu7, hmc2, f0, f1, f2, oy, iy0, iy1, hfz⟩ := o9.at_ (k := q) (by omega)
               have hyq : y7 = ⟨a, 0, []⟩ := by rw [← HQD.out, last_getU] at hy7; injection hy7 with hy7; exact hy7.symm
               subst hyq
               replace f1 : w9.cell? ⟨g7, q * 3 + 1, none⟩ = some (.int .i64 0) := f1
               have O9 := Lib.hid o9
               have e09 := cell_past2 g9 (cell_keep BH.out e0) hvn.out
               have B9 := Lib.hid (Below.grown (hbW.out.next BH.out) g9 hbs.out (fun b e => (OVA.out.lt (.inl e)).1))
               clear o9 g9 p9 f0 oy)
            | fail)
          have HN := Lib.hid (show OwnH (w9.setCell ⟨g7, q * 3 + 1, none⟩ (.int .i64 1)) w.heap.size (.slice (some ⟨g7, 0, none⟩) (q + 1) k9) (done ++ [⟨a, 1, []⟩]) (vs ++ [.slice none 0 0]) by
            have := O9.out.setGone (k := q) (x := ⟨a, 0, []⟩) (by rw [← HQD.out]; exact last_getU _ _) 1 ⟨by decide, by decide⟩
            rw [← HQD.out, last_setU, HQD.out] at this
            exact this)
          go_roundw
          case rel => exact ⟨_, _, done, some ⟨a, 1, []⟩, a + 1, k + 1, rfl, rfl, rfl, by go_num, by omega, by omega, by omega, HN, Lib.hid (by rw [← HS.out, hs.out]; rfl), Lib.hid (by rw [List.length_append, HQD.out]; have := hqk.out; simp; omega), Lib.hid (fun h e => by injection e with e; subst e; exact ⟨by dsimp only; omega, by dsimp only; omega, by dsimp only; simp⟩), B9.out.setCell (by have := (O9.out.lt (.inl rfl)).1; omega) _⟩
          case measure => simp [intOf]; omega
        · have q2 : (y.kind == 2) = false := by simp [k2]
          have hs := Lib.hid (runs_new HY.out k1 k2 a none)
          clear k2 k1
          go_wp2_with (first
            | (at_builtin
               rw [← HW.out]
               refine wpList_hk (.tmp 25) (.tmp 28) w.heap.size v done vs OVA.out ⟨a, 0, []⟩ HXO.out (.slice none 0 0) OwnV.nil_ hfr.out (wr.heap.size + 1) ha0.out ha1.out ha2.out hdl hbs.out rfl rfl rfl rfl ?_
               intro v9 w9 o9 g9 p9
               obtain ⟨A9, k9, rfl, h91, _⟩ := o9.form hlenq.out
               obtain ⟨g7, y7, a2, m2, c2, rfl, hg70, hg71, hy7, hu7, hmc2, f0, f1, f2, oy, iy0, iy1, hfz⟩ := o9.at_ (k := q) (by omega)
               have hyq : y7 = ⟨a, 0, []⟩ := by rw [← HQD.out, last_getU] at hy7; injection hy7 with hy7; exact hy7.symm
               subst hyq
               have HU7 := Lib.hid hu7
               have OY := Lib.hid oy
               have O9 := Lib.hid o9
               have e09 := cell_past2 g9 (cell_keep BH.out e0) hvn.out
               have e19 := cell_past2 g9 (cell_keep BH.out e1) hvn.out
               have B9 := Lib.hid (Below.grown (hbW.out.next BH.out) g9 hbs.out (fun b e => (OVA.out.lt (.inl e)).1))
               clear o9 g9 p9 f0 oy hu7)
            | fail)
          have BA := Lib.hid (((below_alloc w9 (.cells #[.string y.line] 9)).next (Below.refl _ _).drew))
          have OA := Lib.hid (O9.out.below BA.out)
          have UA := Lib.hid (OY.out.below BA.out)
          have LA := Lib.hid (show Strs (w9.alloc (.cells #[.string y.line] 9)).drew (some ⟨w9.heap.size, 0, none⟩) 1 [y.line] from (strs_one w9 y.line HYO.out.line).below (Below.refl _ _).drew)
          have hbs2 := Lib.hid (show w.heap.size ≤ (w9.alloc (.cells #[.string y.line] 9)).drew.heap.size from (B9.out.next BA.out).size)
          have HBB := Lib.hid (B9.out.next BA.out)
          have hnew0 : Hid ((⟨a, 0, []⟩ : Hk).new.length + 1 ≤ 4294967296) := Lib.hid (by dsimp only; simp)
          go_region_law (first
            | (refine step_strsU (.tmp 51) (.tmp 54) w.heap.size (.slice a2 m2 c2) (⟨a, 0, []⟩ : Hk).new UA.out (some ⟨w9.heap.size, 0, none⟩) 1 1 [y.line] LA.out hnew0.out hbs2.out rfl rfl rfl rfl ?_
               intro v8 w8 o8 g8 p8
               obtain ⟨q8, Hq8⟩ : ∃ q, Hid (((⟨a, 0, []⟩ : Hk).new ++ [y.line]).length = q) := ⟨_, rfl⟩
               obtain ⟨A8, k8, rfl, h81, _⟩ := o8.form Hq8.out
               have HN := Lib.hid (OA.out.setNew (k := q) (x := ⟨a, 0, []⟩) (by rw [← HQD.out]; exact last_getU _ _) HU7.out g8 p8 o8)
               rw [← HQD.out, last_setU, HQD.out] at HN
               have fz8 : ∀ j, w8.frozen? ⟨g7, j, none⟩ = false := fun j => by
                 have hne : (Value.slice a2 m2 c2).ownBlock ≠ some g7 := fun e => O9.out.apart q _ g7 HU7.out e rfl
                 have h1 := g8.block g7 (by have := (OA.out.lt (.inl rfl)).2; exact this) (fun e => hne e.symm)
                 have h3 : w8.frozen? ⟨g7, j, none⟩ = (w9.alloc (.cells #[.string y.line] 9)).drew.frozen? ⟨g7, j, none⟩ := by unfold World.frozen?; rw [h1]
                 rw [h3]
                 have h4 := (BA.out.block g7 (O9.out.lt (.inl rfl)).2)
                 have h5 : (w9.alloc (.cells #[.string y.line] 9)).drew.frozen? ⟨g7, j, none⟩ = w9.frozen? ⟨g7, j, none⟩ := by unfold World.frozen?; rw [h4]
                 rw [h5]; exact hfz j
               have f28 := cell_past2 g8 (show (w9.alloc (.cells #[.string y.line] 9)).drew.cell? ⟨g7, q * 3 + 2, none⟩ = some (.slice a2 m2 c2) from cell_keep BA.out f2) (fun e => O9.out.apart q _ g7 HU7.out e rfl)
               have B8 := Lib.hid (Below.grown HBB.out g8 HBB.out.size (fun b e => (UA.out.lt e).1)))
            | fail)
          all_goals go_wp2
          all_goals go_roundw
          all_goals first | (case measure => simp [intOf]; omega) | skip
          all_goals exact ⟨_, _, done, some ⟨a, 0, [y.line]⟩, a, k + 1, rfl, rfl, rfl, by go_num, by omega, by omega, by omega, HN, Lib.hid (by rw [← HS.out, hs.out]; rfl), Lib.hid (by rw [List.length_append, HQD.out]; have := hqk.out; simp; omega), Lib.hid (fun h e => by injection e with e; subst e; exact ⟨by dsimp only; omega, by dsimp only; omega, by simp⟩), B8.out.setCell (by have := (O9.out.lt (.inl rfl)).1; omega) _⟩
    · have hf := Lib.hid (show done ++ cur.toList = runsF T none rows by rw [← HS.out, List.drop_eq_nil_of_le (by rw [HL.out]; omega)]; rfl)
      rw [hf.out] at HO
      go_wp2
      go_ret
      exact ⟨v, vs, rfl, HO.out, hb⟩

def allG (l : List ByteArray) (g : List Gp) : List Hk := if codeG l g = 0 then hunksF g else []
theorem eqT_commU (a b : List ByteArray) : eqT a b = eqT b a := by unfold eqT; rw [Bool.eq_iff_iff]; simp; exact ⟨fun h => h.symm, fun h => h.symm⟩

set_option maxHeartbeats 8000000 in
set_option maxRecDepth 100000 in
theorem l6All_any (a : Option Addr) (nl cl : Nat) (l : List ByteArray) (b0 : Option Addr) (n c : Nat) (g : List Gp) (w : World) (hl : Strs w a nl l) (hcl : nl ≤ cl) (hnl : nl ≤ 1048576) (hg : Gps w b0 n g) (hgd : goodG g = true) :
    Calls Tryz.prog 108 #[.slice a nl cl, .slice b0 n c] w fun e w' => ∃ v vs, e = .returned (.tuple #[v, .int .i64 (codeG l g)]) ∧ OwnH w' w.heap.size v (allG l g) vs ∧ Below w.heap.size w w' := by
  have HL := Lib.hid hl.len
  have HN := Lib.hid hg.len
  have HALL := Lib.hid (goodGF_mem (show goodGF 0 0 g = true by unfold goodG at hgd; simp only [Bool.and_eq_true] at hgd; exact hgd.2))
  have hn20 : n ≤ 20 := by rw [← hg.len]; unfold goodG at hgd; simp only [Bool.and_eq_true, decide_eq_true_eq] at hgd; exact hgd.1
  clear hgd
  go_enter Tryz.func108, Tryz.ntmps108
  go_wp2
  go_loopw [15] (fun i w' => ∃ k : Nat, i = .int .i64 (k : Int) ∧ k ≤ n ∧ Hid (farB l (g.drop k) = farB l g) ∧ Below w.heap.size w w') (fun i _ => n - (intOf i).toNat)
  case atStart => exact ⟨0, rfl, by omega, show _ = _ by rw [List.drop_zero], Below.refl _ _⟩
  case round =>
    obtain ⟨k, rfl, hk, HF, hb⟩ := hrel
    by_cases hlt : k < n
    · obtain ⟨b, off, A, m, c', x, rfl, hx, c0, c1, c2, hr, hmc, hok⟩ := (hg.below hb).at_ hlt
      obtain ⟨r80, a0, a9, t0, t9, l3, l2⟩ := groupB_len (HALL.out x (List.mem_of_getElem? hx))
      have hm80 : m ≤ 1048576 := by rw [← hr.len]; omega
      obtain ⟨m3, H3⟩ : ∃ m3, Hid ((lw 3 x.rows).length = m3) := ⟨_, rfl⟩
      have hm3 : m3 ≤ 40 := by rw [← H3.out]; exact l3
      have HST := Lib.hid (far_step (l := l) hx)
      rw [H3.out, HL.out] at HST
      have hw : IntKind.i64.wrap (x.at_ + (m3 : Int)) = x.at_ + (m3 : Int) := by rw [IntKind.wrap_i64]; omega
      obtain ⟨W1, HW1⟩ : ∃ W1, Hid (W1 = wr.alloc (.cells #[.int .i64 x.at_, .int .i64 x.to_, .slice A m c'] 60)) := ⟨_, rfl⟩
      have HB1 := Lib.hid (show Below wr.heap.size wr W1 by rw [HW1.out]; exact below_alloc _ _)
      have d0 : W1.cell? ⟨wr.heap.size, 0, none⟩ = some (.int .i64 x.at_) := by rw [HW1.out]; simp
      have d1 : W1.cell? ⟨wr.heap.size, 1, none⟩ = some (.int .i64 x.to_) := by rw [HW1.out]; simp
      have d2 : W1.cell? ⟨wr.heap.size, 2, none⟩ = some (.slice A m c') := by rw [HW1.out]; simp
      have BD := Lib.hid (Below.refl W1.heap.size W1).drew
      have HRW := Lib.hid ((hr.below HB1.out).below BD.out)
      have hbb := Lib.hid (hb.next HB1.out)
      clear hx hok r80 t0 t9 l3 l2
      by_cases hfar : (nl : Int) < x.at_ + (m3 : Int)
      · have hq := eq_true hfar
        have hcd := Lib.hid (show codeG l g = 3 by
          unfold codeG
          rw [← HF.out, HST.out, decide_eq_true hfar, Bool.true_or]; rfl)
        have hf := Lib.hid (show allG l g = [] by unfold allG; rw [hcd.out]; rfl)
        clear hfar
        go_wp2
        rw [← HW1.out]
        go_region_held3 (fun w' => w'.cell? ⟨wr.heap.size, 0, none⟩ = some (.int .i64 x.at_) ∧ w'.cell? ⟨wr.heap.size, 1, none⟩ = some (.int .i64 x.to_) ∧ w'.cell? ⟨wr.heap.size, 2, none⟩ = some (.slice A m c')) (first | exact ⟨d0, d1, d2⟩ | exact ⟨cell_keep D4.out d0, cell_keep D4.out d1, cell_keep D4.out d2⟩ | go_keep)
          (first
            | (go_at_call 71; refine (l6Old_any A m c' x _ HRW.out hm80).mono ?_; rintro e w4 ⟨v4, rfl, o4, b4⟩
               obtain ⟨A4, k4, rfl, hk4, _⟩ := o4.form H3.out
               have D4 := Lib.hid (BD.out.next b4))
            | fail)
        go_wp2
        go_ret2
        exact ⟨_, [], by rw [hcd.out]; rfl, by rw [hf.out]; exact OwnH.nil_, hbb.out.next D4.out⟩
      · have hq := eq_false hfar
        have hN := Lib.hid (show farB l (g.drop (k + 1)) = farB l g by rw [← HF.out, HST.out, decide_eq_false hfar, Bool.false_or])
        clear hfar
        go_wp2
        rw [← HW1.out]
        go_region_held3 (fun w' => w'.cell? ⟨wr.heap.size, 0, none⟩ = some (.int .i64 x.at_) ∧ w'.cell? ⟨wr.heap.size, 1, none⟩ = some (.int .i64 x.to_) ∧ w'.cell? ⟨wr.heap.size, 2, none⟩ = some (.slice A m c')) (first | exact ⟨d0, d1, d2⟩ | exact ⟨cell_keep D4.out d0, cell_keep D4.out d1, cell_keep D4.out d2⟩ | go_keep)
          (first
            | (go_at_call 71; refine (l6Old_any A m c' x _ HRW.out hm80).mono ?_; rintro e w4 ⟨v4, rfl, o4, b4⟩
               obtain ⟨A4, k4, rfl, hk4, _⟩ := o4.form H3.out
               have D4 := Lib.hid (BD.out.next b4))
            | fail)
        go_wp2
        go_roundw
        case rel => exact ⟨k + 1, by go_num, by omega, hN, hbb.out.next D4.out⟩
        case measure => simp [intOf]; omega
    · have HFB := Lib.hid (show farB l g = false by rw [← HF.out, List.drop_eq_nil_of_le (by rw [HN.out]; omega)]; rfl)
      have HB1 := Lib.hid hb
      clear HF hb
      go_wp2
      go_loopw [8, 9, 31] (fun q lv i w' => ∃ (v : Value) (vs : List Value) (k : Nat) (more : Int), q = .int .i64 more ∧ v = lv ∧ i = .int .i64 (k : Int) ∧ k ≤ n ∧ -40 * (k : Int) ≤ more ∧ more ≤ 40 * (k : Int) ∧ Hid (standsF l more (g.drop k) = standsF l 0 g) ∧ Hid (OwnH w' w.heap.size v (hunksF (g.take k)) vs) ∧ Hid ((hunksF (g.take k)).length ≤ 80 * k) ∧ Below w.heap.size w w') (fun _ _ i _ => n - (intOf i).toNat)
      case atStart => exact ⟨_, [], 0, 0, rfl, rfl, rfl, by omega, by omega, by omega, show _ = _ by rw [List.drop_zero], Lib.hid OwnH.nil_, Lib.hid (by simp [hunksF]), HB1.out⟩
      case round =>
        obtain ⟨v, vs, k, more, rfl, rfl, rfl, hk, hmo0, hmo1, HS, HO, HLE, hb⟩ := hrel
        by_cases hlt : k < n
        · obtain ⟨b, off, A, m, c', x, rfl, hx, c0, c1, c2, hr, hmc, hok⟩ := (hg.below hb).at_ hlt
          have hgb := HALL.out x (List.mem_of_getElem? hx)
          obtain ⟨r80, a0, a9, t0, t9, l3, l2⟩ := groupB_len hgb
          have HGB := Lib.hid hgb
          have hm80 : m ≤ 1048576 := by rw [← hr.len]; omega
          obtain ⟨m3, H3⟩ : ∃ m3, Hid ((lw 3 x.rows).length = m3) := ⟨_, rfl⟩
          obtain ⟨m2, H2⟩ : ∃ m2, Hid ((lw 2 x.rows).length = m2) := ⟨_, rfl⟩
          have hm3 : m3 ≤ 40 := by rw [← H3.out]; exact l3
          have hm2 : m2 ≤ 40 := by rw [← H2.out]; exact l2
          obtain ⟨at', ea⟩ : ∃ at' : Nat, x.at_ = (at' : Int) := ⟨x.at_.toNat, by omega⟩
          obtain ⟨hi, Hhi⟩ : ∃ hi : Nat, Hid (hi = at' + m3) := ⟨_, rfl⟩
          have hfit := far_mem HFB.out (List.mem_of_getElem? hx)
          rw [H3.out, HL.out, ea] at hfit
          have hh0 : at' ≤ hi := by have := Hhi.out; omega
          have hh1 : hi ≤ nl := by have := Hhi.out; omega
          have HST := Lib.hid (stand_step (l := l) more hx)
          rw [H3.out, H2.out, ea, Int.toNat_natCast, ← Hhi.out] at HST
          obtain ⟨am, Ham⟩ : ∃ am : Int, Hid ((at' : Int) + more = am) := ⟨_, rfl⟩
          rw [Ham.out] at HST
          obtain ⟨tt, HTT⟩ : ∃ tt, Hid (x.to_ = tt) := ⟨_, rfl⟩
          have HSN := Lib.hid (show hunksF (g.take (k + 1)) = hunksF (g.take k) ++ gpHunks x by rw [take_snoc hx, hunksF_snoc])
          have HG80 := Lib.hid (show (gpHunks x).length ≤ 80 by have := runs_len x.rows x.at_ none; unfold gpHunks; simp at this; omega)
          rw [HTT.out] at HST
          have hw0 : IntKind.i64.wrap ((at' : Int) + more) = am := by rw [IntKind.wrap_i64]; have := Ham.out; omega
          have hw1 : IntKind.i64.wrap ((at' : Int) + (m3 : Int)) = (hi : Int) := by rw [IntKind.wrap_i64]; have := Hhi.out; omega
          have hw2 : IntKind.i64.wrap ((m2 : Int) - (m3 : Int)) = (m2 : Int) - (m3 : Int) := by rw [IntKind.wrap_i64]; omega
          have hw3 : IntKind.i64.wrap (more + ((m2 : Int) - (m3 : Int))) = more + ((m2 : Int) - (m3 : Int)) := by rw [IntKind.wrap_i64]; omega
          have hcut := cut_strs a nl cl at' hi hh0 (by omega)
          obtain ⟨W1, HW1⟩ : ∃ W1, Hid (W1 = wr.alloc (.cells #[.int .i64 (at' : Int), .int .i64 tt, .slice A m c'] 60)) := ⟨_, rfl⟩
          have HB1 := Lib.hid (show Below wr.heap.size wr W1 by rw [HW1.out]; exact below_alloc _ _)
          have d0 : W1.cell? ⟨wr.heap.size, 0, none⟩ = some (.int .i64 (at' : Int)) := by rw [HW1.out]; simp
          have d1 : W1.cell? ⟨wr.heap.size, 1, none⟩ = some (.int .i64 tt) := by rw [HW1.out]; simp
          have d2 : W1.cell? ⟨wr.heap.size, 2, none⟩ = some (.slice A m c') := by rw [HW1.out]; simp
          have HRW := Lib.hid (hr.below HB1.out)
          have BB := Lib.hid (hb.next HB1.out)
          have HOW := Lib.hid (HO.out.below HB1.out)
          have HOLD := Lib.hid (show Calls Tryz.prog 71 #[.agg #[.int .i64 (at' : Int), .int .i64 tt, .slice A m c']] W1 fun e w' => ∃ v, e = .returned v ∧ OwnV w' W1.heap.size v (lw 3 x.rows) ∧ Below W1.heap.size W1 w' by
            rw [← ea, ← HTT.out]; exact l6Old_any A m c' x _ HRW.out hm80)
          have HNEW := Lib.hid (show ∀ w5, Rws w5 A m x.rows → Calls Tryz.prog 72 #[.agg #[.int .i64 (at' : Int), .int .i64 tt, .slice A m c']] w5 fun e w' => ∃ v, e = .returned v ∧ OwnV w' w5.heap.size v (lw 2 x.rows) ∧ Below w5.heap.size w5 w' from fun w5 h5 => by
            rw [← ea, ← HTT.out]; exact l6New_any A m c' x _ h5 hm80)
          have HHKS := Lib.hid (show ∀ w5, Rws w5 A m x.rows → Calls Tryz.prog 144 #[.agg #[.int .i64 (at' : Int), .int .i64 tt, .slice A m c']] w5 fun e w' => ∃ v vs, e = .returned v ∧ OwnH w' w5.heap.size v (gpHunks x) vs ∧ Below w5.heap.size w5 w' from fun w5 h5 => by
            rw [← ea, ← HTT.out]; exact l6Hunks_any A m c' x _ h5 HGB.out)
          rw [ea] at c0
          rw [HTT.out] at c1
          clear hx hgb hok r80 t0 t9 l3 l2 hr hb a0 a9 hfit
          go_wp2_with fail
          rw [← HW1.out]
          refine HOLD.out.mono ?_
          rintro e w4 ⟨v4, rfl, o4, b4⟩
          obtain ⟨A4, k4, rfl, hk4, _⟩ := o4.form H3.out
          have B4 := Lib.hid b4
          have O4 := Lib.hid o4.strs
          have f0 := cell_keep b4 d0
          have f1 := cell_keep b4 d1
          have f2 := cell_keep b4 d2
          have HLS := Lib.hid (((hl.below (BB.out.next b4))).cut hh0 hh1 hcl)
          clear o4 b4 c0 c1 c2 d0 d1 d2
          go_wp2_with fail
          refine (l1SameT_any (cutA a cl at') A4 (hi - at') m3 (cl - at') k4 (seg l at' hi) (lw 3 x.rows) _ HLS.out O4.out).mono ?_
          rintro e w5 ⟨rfl, d5⟩
          have B5 := Lib.hid (B4.out.next d5.below)
          have h0 := cell_keep d5.below f0
          have h1 := cell_keep d5.below f1
          have h2 := cell_keep d5.below f2
          clear f0 f1 f2 d5
          rw [eqT_commU]
          cases hE : eqT (lw 3 x.rows) (seg l at' hi)
          · have hcd := Lib.hid (show codeG l g = 2 by
              unfold codeG
              rw [HFB.out, ← HS.out, HST.out, hE, Bool.and_false, Bool.false_and]; rfl)
            have hf := Lib.hid (show allG l g = [] by unfold allG; rw [hcd.out]; rfl)
            clear hE
            go_wp2
            go_ret2
            exact ⟨_, [], by rw [hcd.out]; rfl, by rw [hf.out]; exact OwnH.nil_, BB.out.next B5.out⟩
          · by_cases hto : tt = am
            · have hne : (tt != am) = false := by simp [hto]
              have hN := Lib.hid (show standsF l (more + ((m2 : Int) - m3)) (g.drop (k + 1)) = standsF l 0 g by
                rw [← HS.out, HST.out, hE, decide_eq_true hto, Bool.and_true, Bool.true_and])
              clear hE hto
              go_wp2_with fail
              refine (HNEW.out _ (HRW.out.below B5.out)).mono ?_
              rintro e w6 ⟨v6, rfl, o6, b6⟩
              obtain ⟨A6, k6, rfl, hk6, _⟩ := o6.form H2.out
              have B6 := Lib.hid (B5.out.next b6)
              have j0 := cell_keep b6 h0
              have j1 := cell_keep b6 h1
              have j2 := cell_keep b6 h2
              clear o6 b6 h0 h1 h2
              go_wp2_with fail
              refine (HHKS.out _ (HRW.out.below B6.out)).mono ?_
              rintro e w7 ⟨v7, vs7, rfl, o7, b7⟩
              obtain ⟨q7, HQ7⟩ : ∃ q, Hid ((gpHunks x).length = q) := ⟨_, rfl⟩
              obtain ⟨A7, k7, rfl, hk7, _⟩ := o7.form HQ7.out
              have HO6 := Lib.hid (HOW.out.below B6.out)
              have HO7 := Lib.hid (HO6.out.below b7)
              have O7 := Lib.hid o7
              have hap := Lib.hid (show ∀ b, Blk v vs b → ¬ Blk (.slice A7 q7 k7) vs7 b from fun b e e2 => by have := (HO6.out.lt e).2; have := (O7.out.lt e2).1; omega)
              have B7 := Lib.hid (BB.out.next (B6.out.next b7))
              have hb6 : w.heap.size ≤ w6.heap.size := (BB.out.next B6.out).size
              have hbnd : (hunksF (g.take k)).length + q7 ≤ 1048576 := by have := HLE.out; have := HG80.out; have := HQ7.out; omega
              clear o7 b7 j0 j1 j2
              go_wp2_with (first
                | (at_builtin; refine wpList_hks (.tmp 66) (.tmp 68) w.heap.size w6.heap.size v (hunksF (g.take k)) vs HO7.out A7 q7 k7 (gpHunks x) vs7 O7.out hb6 hap.out hbnd B7.out.size rfl rfl rfl rfl ?_
                   intro v9 w9 o9 g9
                   have O9 := Lib.hid o9
                   have B9 := Lib.hid (Below.grown B7.out g9 B7.out.size (fun g' e => (HO7.out.lt (.inl e)).1))
                   clear o9 g9)
                | fail)
              go_roundw
              case rel => exact ⟨v9, _, k + 1, more + ((m2 : Int) - m3), rfl, rfl, by go_num, by omega, by omega, by omega, hN, Lib.hid (by rw [HSN.out]; exact O9.out), Lib.hid (by rw [HSN.out, List.length_append]; have := HLE.out; have := HG80.out; omega), B9.out⟩
              case measure => simp [intOf]; omega
            · have hne : (tt != am) = true := by simp [hto]
              have hcd := Lib.hid (show codeG l g = 2 by
                unfold codeG
                rw [HFB.out, ← HS.out, HST.out, decide_eq_false hto, Bool.false_and, Bool.false_and]; rfl)
              have hf := Lib.hid (show allG l g = [] by unfold allG; rw [hcd.out]; rfl)
              clear hto hE
              go_wp2
              go_ret2
              exact ⟨_, [], by rw [hcd.out]; rfl, by rw [hf.out]; exact OwnH.nil_, BB.out.next B5.out⟩
        · have hcd := Lib.hid (show codeG l g = 0 by
            unfold codeG
            rw [HFB.out, ← HS.out, List.drop_eq_nil_of_le (by rw [HN.out]; omega)]; rfl)
          have hf := Lib.hid (show allG l g = hunksF g by unfold allG; rw [hcd.out]; rfl)
          have htk : g.take k = g := List.take_of_length_le (by rw [HN.out]; omega)
          rw [htk] at HO
          go_wp2
          go_ret2
          exact ⟨v, vs, by rw [hcd.out]; rfl, by rw [hf.out]; exact HO.out, hb⟩

def hunkS (l : List ByteArray) (g : List Gp) : List Hk × Int × Bool := if goodB l = true ∧ goodG g = true then (allG l g, codeG l g, true) else ([], 0, false)
theorem codeG_cases (l : List ByteArray) (g : List Gp) : codeG l g = 0 ∨ codeG l g = 2 ∨ codeG l g = 3 := by
  unfold codeG
  split
  · exact .inr (.inr rfl)
  · split
    · exact .inl rfl
    · exact .inr (.inl rfl)
theorem hunksF_new {g : List Gp} (hg : goodG g = true) {h : Hk} (hh : h ∈ hunksF g) : h.new.length ≤ 40 := by
  unfold hunksF at hh
  obtain ⟨x, hx, hh⟩ := List.mem_flatMap.1 hh
  have hgb := goodGF_mem (show goodGF 0 0 g = true by unfold goodG at hg; simp only [Bool.and_eq_true] at hg; exact hg.2) x hx
  rw [gpHunks_bare] at hh
  obtain ⟨y, hy, rfl⟩ := List.mem_map.1 hh
  obtain ⟨_, _, _, _, e⟩ := hunkB_parts (rise_mem (bare_rise (group_kinds hgb) (group_lines hgb)) hy)
  exact linesB_len e

set_option maxHeartbeats 4000000 in
set_option maxRecDepth 100000 in
theorem specGroupHunks_any (a : Option Addr) (nl cl : Nat) (l : List ByteArray) (b0 : Option Addr) (n c : Nat) (g : List Gp) (w : World) (hl : Strs w a nl l) (hcl : nl ≤ cl) (hnl : nl ≤ 1048576) (hg : Gps w b0 n g) (hsm : ∀ x ∈ g, x.rows.length ≤ 1048576) :
    Calls Tryz.prog 60 #[.slice a nl cl, .slice b0 n c] w fun e w' => ∃ v vs, e = .returned (.tuple #[v, .int .i64 (hunkS l g).2.1, .bool (hunkS l g).2.2]) ∧ OwnH w' w.heap.size v (hunkS l g).1 vs ∧ Below w.heap.size w w' := by
  cases hgl : goodB l
  · have hf := Lib.hid (show hunkS l g = ([], 0, false) by unfold hunkS; rw [hgl]; simp)
    have HGL := Lib.hid hgl
    clear hgl
    go_enter Tryz.func60, Tryz.ntmps60
    go_wp2_with fail
    refine (l1Good_any a nl cl l _ hl).mono ?_
    rintro e w1 ⟨rfl, rfl⟩
    rw [HGL.out]
    go_wp2
    go_ret3
    exact ⟨_, [], by rw [hf.out]; rfl, by rw [hf.out]; exact OwnH.nil_, Below.refl _ _⟩
  have HGL := Lib.hid hgl
  clear hgl
  cases hgg : goodG g
  · have hf := Lib.hid (show hunkS l g = ([], 0, false) by unfold hunkS; rw [hgg]; simp)
    have HGG := Lib.hid hgg
    clear hgg
    go_enter Tryz.func60, Tryz.ntmps60
    go_wp2_with fail
    refine (l1Good_any a nl cl l _ hl).mono ?_
    rintro e w1 ⟨rfl, rfl⟩
    rw [HGL.out]
    go_wp2_with fail
    refine (l6Good_any b0 n c g _ hg hsm).mono ?_
    rintro e w2 ⟨rfl, b2⟩
    rw [HGG.out]
    go_wp2
    go_ret3
    exact ⟨_, [], by rw [hf.out]; rfl, by rw [hf.out]; exact OwnH.nil_, b2⟩
  have HGG := Lib.hid hgg
  have hf := Lib.hid (show hunkS l g = (allG l g, codeG l g, true) from if_pos ⟨HGL.out, hgg⟩)
  clear hgg
  go_enter Tryz.func60, Tryz.ntmps60
  go_wp2_with fail
  refine (l1Good_any a nl cl l _ hl).mono ?_
  rintro e w1 ⟨rfl, rfl⟩
  rw [HGL.out]
  go_wp2_with fail
  refine (l6Good_any b0 n c g _ hg hsm).mono ?_
  rintro e w2 ⟨rfl, b2⟩
  rw [HGG.out]
  go_wp2_with fail
  refine (l6All_any a nl cl l b0 n c g _ (hl.below b2) hcl hnl (hg.below b2) HGG.out).mono ?_
  rintro e w3 ⟨v3, vs3, rfl, o3, b3⟩
  go_wp2
  go_ret3
  exact ⟨v3, vs3, by rw [hf.out]; rfl, by rw [hf.out]; exact o3.more b2.size, b2.next b3⟩

set_option maxHeartbeats 4000000 in
set_option maxRecDepth 100000 in
theorem specApplyGroups_any (a : Option Addr) (nl cl : Nat) (l : List ByteArray) (b0 : Option Addr) (n c : Nat) (g : List Gp) (w : World) (hl : Strs w a nl l) (hcl : nl ≤ cl) (hg : Gps w b0 n g) (hnc : n ≤ c) (hsm : ∀ x ∈ g, x.rows.length ≤ 1048576) (hnl : nl ≤ 1048576) :
    Calls Tryz.prog 23 #[.slice a nl cl, .slice b0 n c] w fun e w' => ∃ v, e = .returned (.tuple #[v, .int .i64 (applyG l g).2.1, .bool (applyG l g).2.2]) ∧ OwnV w' w.heap.size v (applyG l g).1 ∧ Below w.heap.size w w' := by
  by_cases hgood : goodB l = true ∧ goodG g = true
  case neg =>
    have hh := Lib.hid (show hunkS l g = ([], 0, false) from if_neg hgood)
    have hf := Lib.hid (show applyG l g = ([], 0, false) from if_neg hgood)
    clear hgood
    go_enter Tryz.func23, Tryz.ntmps23
    go_wp2_with fail
    refine (specGroupHunks_any a nl cl l b0 n c g _ hl hcl hnl hg hsm).mono ?_
    rintro e w1 ⟨v1, vs1, rfl, o1, b1⟩
    rw [hh.out]
    go_wp2
    go_ret3
    exact ⟨_, by rw [hf.out]; rfl, by rw [hf.out]; exact OwnV.nil_, b1⟩
  case pos =>
  have hh := Lib.hid (show hunkS l g = (allG l g, codeG l g, true) from if_pos hgood)
  have HGD := Lib.hid hgood
  clear hgood
  obtain ⟨cd, HCD⟩ : ∃ cd, Hid (codeG l g = cd) := ⟨_, rfl⟩
  have hcs := codeG_cases l g
  rw [HCD.out] at hcs
  by_cases hcd : cd = 0
  case neg =>
    have hgt := eq_true (show (0 : Int) < cd by omega)
    have hh2 := Lib.hid (show hunkS l g = (allG l g, cd, true) by rw [hh.out, HCD.out])
    have hf := Lib.hid (show applyG l g = ([], cd, true) by rw [applyG_code HGD.out.1 HGD.out.2 (by rw [HCD.out]; exact hcd), HCD.out])
    clear hcs hcd hh
    go_enter Tryz.func23, Tryz.ntmps23
    go_wp2_with fail
    refine (specGroupHunks_any a nl cl l b0 n c g _ hl hcl hnl hg hsm).mono ?_
    rintro e w1 ⟨v1, vs1, rfl, o1, b1⟩
    rw [hh2.out]
    go_wp2
    go_ret3
    exact ⟨_, by rw [hf.out]; rfl, by rw [hf.out]; exact OwnV.nil_, b1⟩
  case pos =>
  subst hcd
  have hh2 := Lib.hid (show hunkS l g = (hunksF g, 0, true) by rw [hh.out]; unfold allG; rw [HCD.out]; rfl)
  have HZ := Lib.hid (applyG_zero HGD.out.1 HGD.out.2 HCD.out)
  have HNW := Lib.hid (show ∀ x ∈ hunksF g, x.new.length ≤ 1048576 from fun x hx => Nat.le_trans (hunksF_new HGD.out.2 hx) (by omega))
  obtain ⟨hs, HHS⟩ : ∃ hs, Hid (hunksF g = hs) := ⟨_, rfl⟩
  rw [HHS.out] at hh2 HZ HNW
  obtain ⟨m, HM⟩ : ∃ m, Hid (hs.length = m) := ⟨_, rfl⟩
  clear hcs hh HCD
  cases hp : patchOk l hs
  · have hf := Lib.hid (show applyG l g = ([], 2, true) by rw [HZ.out, hp]; rfl)
    have HP := Lib.hid (show patchOf l hs = ([], false) by unfold patchOf; rw [hp]; rfl)
    clear hp HZ
    go_enter Tryz.func23, Tryz.ntmps23
    go_wp2_with fail
    refine (specGroupHunks_any a nl cl l b0 n c g _ hl hcl hnl hg hsm).mono ?_
    rintro e w1 ⟨v1, vs1, rfl, o1, b1⟩
    rw [hh2.out] at o1 ⊢
    obtain ⟨A3, k3, rfl, hk3, _⟩ := o1.form HM.out
    go_wp2_with fail
    refine (specPatch_any a nl cl l A3 m k3 hs _ (hl.below b1) hcl o1.hks HNW.out hnl).mono ?_
    rintro e w4 ⟨v4, rfl, o4, b4⟩
    rw [HP.out]
    go_wp2
    go_ret3
    exact ⟨_, by rw [hf.out]; rfl, by rw [hf.out]; exact OwnV.nil_, b1.next b4⟩
  · have hf := Lib.hid (show applyG l g = (patchH l hs, 0, true) by rw [HZ.out, hp]; rfl)
    have HP := Lib.hid (show patchOf l hs = (patchH l hs, true) by unfold patchOf; rw [hp]; rfl)
    clear hp HZ
    go_enter Tryz.func23, Tryz.ntmps23
    go_wp2_with fail
    refine (specGroupHunks_any a nl cl l b0 n c g _ hl hcl hnl hg hsm).mono ?_
    rintro e w1 ⟨v1, vs1, rfl, o1, b1⟩
    rw [hh2.out] at o1 ⊢
    obtain ⟨A3, k3, rfl, hk3, _⟩ := o1.form HM.out
    go_wp2_with fail
    refine (specPatch_any a nl cl l A3 m k3 hs _ (hl.below b1) hcl o1.hks HNW.out hnl).mono ?_
    rintro e w4 ⟨v4, rfl, o4, b4⟩
    rw [HP.out] at o4 ⊢
    go_wp2
    go_ret3
    exact ⟨_, by rw [hf.out]; rfl, by rw [hf.out]; exact o4.more b1.size, b1.next b4⟩

end Go.Proofs.YtkamenidgkjodaaGreatDoor
