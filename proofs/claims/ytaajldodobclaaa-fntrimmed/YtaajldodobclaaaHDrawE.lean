/-
  A copy of hunks; two lists of hunks drawn.
-/
import Derived.Test.YtaajldodobclaaaHDrawD
set_option linter.unusedSimpArgs false
set_option linter.unusedVariables false
namespace Go.Proofs.Ytaajldodobclaaa
open Go.RowKit M

theorem run_app_copy {w : World} (ty : TypeId) (base : Nat) (v0 : Value) (h0 : w.ownsRow base 63 3 v0 0 []) (A : Option Addr) (n c : Nat) (out : List Hk) (vs : List Value) (h : OwnH w base (.slice A n c) out vs) (hn : n ≤ 1000) (hne : ∀ g, v0.ownBlock = some g → ¬ Blk (.slice A n c) vs g) (hbase : base ≤ w.heap.size) :
    ∃ v' w', (Builtin.append_ #[25, 25] ty #[v0, .slice A n c]).run Try.prog w = .ok v' w' ∧ OwnH w' base v' out vs ∧ w.grownBy w' v0.ownBlock := by
  obtain ⟨i, q1, q2, q3, q4⟩ := info_parts hk_info
  have hlen : out.length = n := h.hks.len
  obtain ⟨xs, h1, h2⟩ := h.row
  rcases h1.2 with ⟨hv, hz⟩ | ⟨g, cap, cur, hv, _⟩
  · injection hv with e1 e2 e3
    subst e1 e2 e3
    refine ⟨v0, w, run_append_owned_none w base _ ty 63 i 3 Try.underlying25 q1 v0 0 [] h0, ?_, grown_refl _ _⟩
    have ho : out = [] := List.eq_nil_of_length_eq_zero hz
    have hvs : vs = [] := List.eq_nil_of_length_eq_zero (by rw [h.len, hz])
    subst ho hvs
    exact ⟨rfl, ⟨[], h0, fun k x u e => by simp at e⟩, fun k x u e => by simp at e, fun k u g e => by simp at e, fun a b u u' g e => by simp at e, fun x e => by simp at e⟩
  · injection hv with e1 e2 e3
    subst e1
    obtain ⟨v', w', hrun, hr, hg, _, hat⟩ := run_append_own_at (P := Try.prog) w base 25 ty 63 i _ 3 40 Try.underlying25 q1 q2 q3 q4 (by simp [Value.cells]) (by omega) v0 0 [] h0 ⟨g, 0, none⟩ n c xs (by rw [h1.1, hlen]) (h1.cells rfl) (fun t ht => by
      obtain ⟨j, hj⟩ := List.mem_iff_getElem?.1 ht
      have hjl : j < xs.length := (List.getElem?_eq_some_iff.1 hj).1
      have hxl := h1.1
      have hk : j / 3 < out.length := by omega
      obtain ⟨x, u, hx, hu⟩ := h.get_ hk
      obtain ⟨a0, a1, a2⟩ := h2 (j / 3) x u hx hu
      have h3 : j = j / 3 * 3 ∨ j = j / 3 * 3 + 1 ∨ j = j / 3 * 3 + 2 := by omega
      rcases h3 with e | e | e
      · rw [e, a0] at hj; injection hj with hj; subst hj; rfl
      · rw [e, a1] at hj; injection hj with hj; subst hj; rfl
      · rw [e, a2] at hj; injection hj with hj; subst hj
        obtain ⟨_, _, e, _⟩ := (h.news _ x u hx hu).form rfl
        rw [e]; rfl) (by unfold maxLen; omega) (by omega) hbase
    rw [Nat.zero_add, List.nil_append, ← hlen] at hr
    refine ⟨v', w', hrun, ⟨h.len, ⟨xs, hr, h2⟩, fun k x u hx hu => (h.news k x u hx hu).kept hg (fun b e e2 => hne b e (.inr ⟨k, u, hu, e2⟩)), fun k u b hu e e2 => ?_, h.apart2, h.ints⟩, hg⟩
    rcases hat with hat | hat
    · rw [hat] at e2; exact hne b e2 (.inr ⟨k, u, hu, e⟩)
    · rw [hat] at e2; injection e2 with e2; have := (h.lt (.inr ⟨k, u, hu, e⟩)).2; omega

theorem OwnV.low {w : World} {base b2 : Nat} {v : Value} {l : List ByteArray} (h : OwnV w base v l) (hb : b2 ≤ base) : OwnV w b2 v l := by
  refine ⟨⟨h.row.1, ?_⟩, h.small⟩
  rcases h.row.2 with hn | ⟨g, cap, cur, hv, hbb, rest⟩
  · exact .inl hn
  · exact .inr ⟨g, cap, cur, hv, Nat.le_trans hb hbb, rest⟩
theorem OwnH.low {w : World} {base b2 : Nat} {v : Value} {l : List Hk} {vs : List Value} (h : OwnH w base v l vs) (hb : b2 ≤ base) : OwnH w b2 v l vs := by
  refine ⟨h.len, ?_, fun k x u hx hu => (h.news k x u hx hu).low hb, h.apart, h.apart2, h.ints⟩
  obtain ⟨xs, h1, h2⟩ := h.row
  refine ⟨xs, ⟨h1.1, ?_⟩, h2⟩
  rcases h1.2 with hn | ⟨g, cap, cur, hv, hbb, rest⟩
  · exact .inl hn
  · exact .inr ⟨g, cap, cur, hv, Nat.le_trans hb hbb, rest⟩

theorem wpList_copy {w : World} {ops : Array Oper} {rest : List Oper} {o : Oper} {a : Act} {Q : Exit → Act → World → Prop} (s y : Operand) (base : Nat) (v0 : Value) (h0 : w.ownsRow base 63 3 v0 0 []) (A : Option Addr) (n c : Nat) (out : List Hk) (vs : List Value) (hown : OwnH w base (.slice A n c) out vs) (hn : n ≤ 1000) (hne : ∀ g, v0.ownBlock = some g → ¬ Blk (.slice A n c) vs g) (hbase : base ≤ w.heap.size)
    (hgd : Region.wanted o (yielded ops a.tmps) = true) (ho : o.op = .call { callee := .builtin .append, args := #[s, y], argTypes := #[25, 25] }) (hs : a.eval s = v0) (hy : a.eval y = .slice A n c)
    (h : ∀ v' w', OwnH w' base v' out vs → w.grownBy w' v0.ownBlock → wpList Try.prog ops Q rest (a.put o.dst v') w') : wpList Try.prog ops Q (o :: rest) a w := by
  refine wpList_wanted hgd fun K hK => ?_
  obtain ⟨v', w', hrun, k1, k2⟩ := run_app_copy o.type base v0 h0 A n c out vs hown hn hne hbase
  unfold Oper.wp execOp
  simp only [ho, resolve, invoke, builtin, Sem.run_bind, Sem.run_pure, Result.andThen_ok, List.map_toArray, List.map_cons, List.map_nil, hs, hy, hrun]
  exact hK _ _ (h v' w' k1 k2)

set_option maxHeartbeats 1000000 in
theorem DrawSameHunks_any (a : Option Addr) (n c : Nat) (w : World) (h : Bytes w a n) (hn : n ≤ 1048576) :
    Calls Try.prog 27 #[.slice a n c] w fun e w' => ∃ A n1 c1 hs A2 n2 c2 hs2, e = .returned (.tuple #[.slice A n1 c1, .slice A2 n2 c2]) ∧ Hks w' A n1 hs ∧ Hks w' A2 n2 hs2 ∧ Below w.heap.size w w' := by
  have c0 := Curs.new (c := c) h hn
  go_enter Try.func27, Try.ntmps27
  go_wp2_with fail
  refine (hunked_any _ 0 _ c0 (by omega)).mono ?_
  rintro e w1 ⟨A, n1, c1, l, A2, n2, c2, out, vs, B, rfl, o1, h1, h2, h3, h4, h5, h6, o2, h7, h8, cu, g1⟩
  have H4 := Lib.hid h4
  have HO1 := Lib.hid o1
  have HO2 := Lib.hid o2
  have hzz : w.heap.size < B := by simp at h5; omega
  have HA := Lib.hid (show ∀ x, A = some x → x.block ≠ w.heap.size from fun x e => by
    subst e
    have := (o1.lt (g := x.block) rfl).1
    simp at this
    omega)
  have HLT := Lib.hid (show B ≤ w1.heap.size ∨ n2 = 0 from by
    obtain ⟨xs, q1, q2⟩ := o2.row
    have hlen := o2.hks.len
    rcases q1.2 with ⟨hv, hz⟩ | ⟨g, cap, cur, hv, hb, hg, _⟩
    · exact .inr (by omega)
    · exact .inl (by have := (Array.getElem?_eq_some_iff.1 hg).1; omega))
  clear h3 h4 h6 h8 o1 o2 h5
  go_wp2_with fail
  refine (one_any _ _ 2 _ cu (by omega) (by omega)).mono ?_
  rintro e w2 ⟨bb, rfl, cu2, g2⟩
  have HP1 := Lib.hid (HO1.out.strs.keptg g2 HA.out)
  have HP2 := Lib.hid (HO2.out.keptg g2 hzz)
  have G2 := Lib.hid (g1.trans g2)
  have hw12 : w1.heap.size ≤ w2.heap.size := g2.size
  cases bb
  · go_wp2_with fail
    refine (anyHunks_any _ _ A n1 c1 l _ cu2 (by omega) HP1.out HA.out (by omega) H4.out).mono ?_
    rintro e w3 ⟨v3, out3, vs3, rfl, o5, hlen, hsa, cu3, g3⟩
    obtain ⟨n3, HN3⟩ : ∃ n3, Hid (out3.length = n3) := ⟨_, rfl⟩
    obtain ⟨A3, c3, rfl, hn1, hn2⟩ := o5.form HN3.out
    have HO5 := Lib.hid o5
    clear hsa o5
    go_wp2
    go_ret2
    exact ⟨A2, n2, c2, out, A3, n3, c3, out3, rfl, (HP2.out.keptg g3 hzz).hks, HO5.out.hks, below_new (G2.out.trans g3)⟩
  · have HR := Lib.hid (World.ownsRow_lit (base := 0) (e := 63) (size := 3) w2 #[] 0 (Nat.zero_le _) (by unfold maxLen; omega) rfl)
    have HQ2 := Lib.hid (HP2.out.below (below_alloc w2 (.cells #[] 63)))
    have HQZ := Lib.hid (show OwnH (w2.alloc (.cells #[] 63)) 0 (.slice A2 n2 c2) out vs from HQ2.out.low (Nat.zero_le _))
    go_wp2_with (first
      | (at_builtin; refine wpList_copy (.tmp 18) (.tmp 19) 0 _ HR.out A2 n2 c2 out vs HQZ.out (by omega) (fun g e e2 => by
           have := (HP2.out.lt e2).2
           simp [Value.ownBlock] at e
           omega) (Nat.zero_le _) rfl rfl rfl rfl ?_
         intro v5 w5 o5 g5
         obtain ⟨A5, c5, hv5, _, _⟩ := o5.form HQZ.out.hks.len
         subst hv5)
      | fail)
    go_ret2
    have hb5 : Below w2.heap.size w2 w5 := (below_alloc w2 _).grown g5 (by simp) (fun k hk => by simp [Value.ownBlock] at hk; omega)
    exact ⟨A2, n2, c2, out, A5, n2, c5, out, rfl, HP2.out.hks.below hb5, o5.hks, below_new (grown_below G2.out hb5)⟩

end Go.Proofs.Ytaajldodobclaaa
