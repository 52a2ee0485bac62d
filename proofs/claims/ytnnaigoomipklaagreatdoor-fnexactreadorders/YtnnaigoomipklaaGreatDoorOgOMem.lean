/-
  Words for memory: a slice of orders that reads as a list; one of the call's own.
-/
import Derived.Test.YtnnaigoomipklaaGreatDoorOgOBase
import Derived.Test.YtnnaigoomipklaaGreatDoorOgURows
import Derived.Test.YtnnaigoomipklaaGreatDoorOgHMems
set_option linter.unusedSimpArgs false
set_option linter.unusedVariables false
namespace Go.Proofs.YtnnaigoomipklaaGreatDoor
open Go.RowKit Go.ChangeShapes Go.WideShapes M

/-- Numbers and texts of an order that Go can hold. -/
structure OdOk (x : Od) : Prop where
  kd : i64ok x.kd
  fr : i64ok x.fr
  to_ : i64ok x.to_
  new : ∀ s ∈ x.new, s.size ≤ maxLen

/-- The address and the length of a slice of orders, in a world, and the orders. -/
structure Ods (w : World) (a : Option Addr) (n : Nat) (p : List Od) : Prop where
  len : p.length = n
  lim : n ≤ maxLen
  cell : ∀ k x, p[k]? = some x → ∃ b off A m c, a = some ⟨b, off, none⟩ ∧ w.cell? ⟨b, off + k * 4, none⟩ = some (.int .i64 x.kd) ∧ w.cell? ⟨b, off + k * 4 + 1, none⟩ = some (.int .i64 x.fr) ∧
    w.cell? ⟨b, off + k * 4 + 2, none⟩ = some (.int .i64 x.to_) ∧ w.cell? ⟨b, off + k * 4 + 3, none⟩ = some (.slice A m c) ∧ Strs w A m x.new ∧ m ≤ c ∧ OdOk x

section
variable {w w' : World} {a : Option Addr} {n k : Nat} {p : List Od}
theorem Ods.at_ (h : Ods w a n p) (hk : k < n) : ∃ b off A m c x, a = some ⟨b, off, none⟩ ∧ p[k]? = some x ∧ w.cell? ⟨b, off + k * 4, none⟩ = some (.int .i64 x.kd) ∧ w.cell? ⟨b, off + k * 4 + 1, none⟩ = some (.int .i64 x.fr) ∧
    w.cell? ⟨b, off + k * 4 + 2, none⟩ = some (.int .i64 x.to_) ∧ w.cell? ⟨b, off + k * 4 + 3, none⟩ = some (.slice A m c) ∧ Strs w A m x.new ∧ m ≤ c ∧ OdOk x := by
  have hl : k < p.length := by rw [h.len]; exact hk
  obtain ⟨b, off, A, m, c, e, r⟩ := h.cell k _ (List.getElem?_eq_getElem hl)
  exact ⟨b, off, A, m, c, _, e, List.getElem?_eq_getElem hl, r⟩
theorem Ods.below (h : Ods w a n p) (hb : Below w.heap.size w w') : Ods w' a n p :=
  ⟨h.len, h.lim, fun k s hs => by
    obtain ⟨b, off, A, m, c, e, h0, h1, h2, h3, h4, h5, h6⟩ := h.cell k s hs
    exact ⟨b, off, A, m, c, e, cell_keep hb h0, cell_keep hb h1, cell_keep hb h2, cell_keep hb h3, h4.below hb, h5, h6⟩⟩
end

/-- The cells of an order. -/
def odRow (x : Od) (u : Value) : List D := [.lit (.int .i64 x.kd), .lit (.int .i64 x.fr), .lit (.int .i64 x.to_), textsD u x.new]

/-- A slice of orders of the call's own: the array, each New in a block of its own. -/
structure OwnOd (w : World) (base : Nat) (v : Value) (p : List Od) (rows : List (List D)) : Prop where
  len : rows.length = p.length
  own : OwnR w base v 78 4 rows
  row : ∀ (k : Nat) r x, rows[k]? = some r → p[k]? = some x → ∃ u, r = odRow x u
  ok : ∀ x ∈ p, OdOk x

section
variable {S : Nat → Prop} {w w' : World} {base n cap g k : Nat} {v u : Value} {A : Option Addr} {p : List Od} {rows : List (List D)}
theorem OwnOd.lt (h : OwnOd w base v p rows) (hg : BlkR v rows g) : base ≤ g ∧ g < w.heap.size := h.own.lt hg
theorem OwnOd.form (h : OwnOd w base v p rows) (hn : p.length = n) : ∃ A cap, v = .slice A n cap ∧ n ≤ cap ∧ cap ≤ maxLen := h.own.form (h.len.trans hn)
theorem OwnOd.wrote (h : OwnOd w base v p rows) (hw : Wrote S w w') (hne : ∀ g, BlkR v rows g → ¬ S g) : OwnOd w' base v p rows := ⟨h.len, h.own.wrote hw hne, h.row, h.ok⟩
theorem OwnOd.below (h : OwnOd w base v p rows) (hb : Below w.heap.size w w') : OwnOd w' base v p rows := ⟨h.len, h.own.below hb, h.row, h.ok⟩
theorem OwnOd.more {b2 : Nat} (h : OwnOd w base v p rows) (hb : b2 ≤ base) : OwnOd w b2 v p rows := ⟨h.len, h.own.more hb, h.row, h.ok⟩
theorem OwnOd.nil_ : OwnOd w base (.slice none 0 0) [] [] := ⟨rfl, OwnR.nil_, fun k r x e => by simp at e, fun x e => by simp at e⟩
theorem OwnOd.at_ (h : OwnOd w base (.slice A n cap) p rows) (hk : k < n) : ∃ g x a1 m1 c1, A = some ⟨g, 0, none⟩ ∧ base ≤ g ∧ g < w.heap.size ∧ p[k]? = some x ∧ rows[k]? = some (odRow x (.slice a1 m1 c1)) ∧
    w.cell? ⟨g, k * 4, none⟩ = some (.int .i64 x.kd) ∧ w.cell? ⟨g, k * 4 + 1, none⟩ = some (.int .i64 x.fr) ∧ w.cell? ⟨g, k * 4 + 2, none⟩ = some (.int .i64 x.to_) ∧ w.cell? ⟨g, k * 4 + 3, none⟩ = some (.slice a1 m1 c1) ∧
    OwnV w base (.slice a1 m1 c1) x.new ∧ m1 ≤ c1 ∧ OdOk x ∧ (∀ j, w.frozen? ⟨g, j, none⟩ = false) := by
  obtain ⟨g, r, rfl, hb, hg, hr⟩ := h.own.addr hk
  have hl := h.own.len
  have hkp : k < p.length := by rw [← h.len, hl]; exact hk
  have hx : p[k]? = some p[k] := List.getElem?_eq_getElem hkp
  have hok := h.ok _ (List.mem_of_getElem? hx)
  obtain ⟨u, rfl⟩ := h.row k r _ hr hx
  have o1 := D.own_texts (h.own.datum hr (j := 3) rfl) hok.new
  obtain ⟨a1, c1, rfl, hm1, _⟩ := o1.form rfl
  exact ⟨g, _, a1, _, c1, rfl, hb, hg, hx, hr, h.own.cell hr (j := 0) rfl, h.own.cell hr (j := 1) rfl, h.own.cell hr (j := 2) rfl, h.own.cell hr (j := 3) rfl, o1, hm1, hok, h.own.free⟩
theorem OwnOd.ods (h : OwnOd w base (.slice A n cap) p rows) : Ods w A n p := by
  obtain ⟨A', cap', e, h1, h2⟩ := h.own.form rfl
  injection e with e1 e2 e3
  have hl : p.length = n := by rw [← h.len]; exact h.own.len
  refine ⟨hl, by omega, fun k x hx => ?_⟩
  have hk : k < n := by rw [← hl]; exact (List.getElem?_eq_some_iff.1 hx).1
  obtain ⟨g, y, a1, m1, c1, rfl, _, _, hy, _, q0, q1, q2, q3, o1, hm1, hok, _⟩ := h.at_ hk
  rw [hx] at hy
  injection hy with hy
  subst hy
  exact ⟨g, 0, a1, m1, c1, rfl, by rw [Nat.zero_add]; exact q0, by rw [Nat.zero_add]; exact q1, by rw [Nat.zero_add]; exact q2, by rw [Nat.zero_add]; exact q3, o1.strs, hm1, hok⟩
end

section
variable {w w' : World} {base g n cap k : Nat} {p : List Od} {rows : List (List D)} {x : Od} {u : Value}
theorem OwnOd.reset (h : OwnOd w base (.slice (some ⟨g, 0, none⟩) n cap) p rows) (hx : p[k]? = some x) {r' : List D} (ho : OwnR w' base (.slice (some ⟨g, 0, none⟩) n cap) 78 4 (rows.set k r')) (y : Od) (hr : ∃ u, r' = odRow y u) (hy : OdOk y) :
    OwnOd w' base (.slice (some ⟨g, 0, none⟩) n cap) (p.set k y) (rows.set k r') := by
  refine ⟨by simp [h.len], ho, fun j q z hq hz => ?_, fun z hz => ?_⟩
  · rcases set_get hq with ⟨rfl, rfl⟩ | ⟨hne, hq⟩
    · rcases set_get hz with ⟨_, rfl⟩ | ⟨hne, _⟩
      · exact hr
      · exact absurd rfl hne
    · rcases set_get hz with ⟨e, _⟩ | ⟨_, hz⟩
      · exact absurd e hne
      · exact h.row j q z hq hz
  · rcases List.mem_or_eq_of_mem_set hz with h5 | h5
    · exact h.ok z h5
    · rw [h5]; exact hy
/-- One number of an order is written. -/
theorem OwnOd.setKd (h : OwnOd w base (.slice (some ⟨g, 0, none⟩) n cap) p rows) (hx : p[k]? = some x) (hr : rows[k]? = some (odRow x u)) (i : Int) (hi : i64ok i) :
    OwnOd (w.setCell ⟨g, k * 4, none⟩ (.int .i64 i)) base (.slice (some ⟨g, 0, none⟩) n cap) (p.set k { x with kd := i }) (rows.set k (odRow { x with kd := i } u)) := by
  have hok := h.ok x (List.mem_of_getElem? hx)
  exact h.reset hx (h.own.set hr (j := 0) rfl (u := .int .i64 i) rfl) _ ⟨u, rfl⟩ ⟨hi, hok.fr, hok.to_, hok.new⟩
theorem OwnOd.setFr (h : OwnOd w base (.slice (some ⟨g, 0, none⟩) n cap) p rows) (hx : p[k]? = some x) (hr : rows[k]? = some (odRow x u)) (i : Int) (hi : i64ok i) :
    OwnOd (w.setCell ⟨g, k * 4 + 1, none⟩ (.int .i64 i)) base (.slice (some ⟨g, 0, none⟩) n cap) (p.set k { x with fr := i }) (rows.set k (odRow { x with fr := i } u)) := by
  have hok := h.ok x (List.mem_of_getElem? hx)
  exact h.reset hx (h.own.set hr (j := 1) rfl (u := .int .i64 i) rfl) _ ⟨u, rfl⟩ ⟨hok.kd, hi, hok.to_, hok.new⟩
theorem OwnOd.setTo (h : OwnOd w base (.slice (some ⟨g, 0, none⟩) n cap) p rows) (hx : p[k]? = some x) (hr : rows[k]? = some (odRow x u)) (i : Int) (hi : i64ok i) :
    OwnOd (w.setCell ⟨g, k * 4 + 2, none⟩ (.int .i64 i)) base (.slice (some ⟨g, 0, none⟩) n cap) (p.set k { x with to_ := i }) (rows.set k (odRow { x with to_ := i } u)) := by
  have hok := h.ok x (List.mem_of_getElem? hx)
  exact h.reset hx (h.own.set hr (j := 2) rfl (u := .int .i64 i) rfl) _ ⟨u, rfl⟩ ⟨hok.kd, hok.fr, hi, hok.new⟩
/-- The lines of New are written, in the block that they have. -/
theorem OwnOd.renewNew (h : OwnOd w base (.slice (some ⟨g, 0, none⟩) n cap) p rows) (hx : p[k]? = some x) (hr : rows[k]? = some (odRow x u)) (hw : w.grownBy w' u.ownBlock) {r : List ByteArray} (ho : OwnV w' base u r) :
    OwnOd w' base (.slice (some ⟨g, 0, none⟩) n cap) (p.set k { x with new := r }) (rows.set k (odRow { x with new := r } u)) := by
  have hok := h.ok x (List.mem_of_getElem? hx)
  refine h.reset hx (h.own.renew hr (j := 3) (d := textsD u x.new) (d' := textsD u r) rfl (Wrote.of_grown hw (fun i e => by rw [textsD_blocks]; simp [e])) ho.datum.own (by rw [textsD_blocks, textsD_blocks]) rfl) _ ⟨u, rfl⟩ ⟨hok.kd, hok.fr, hok.to_, ho.small⟩
/-- The block of the list of an order is its slice's. -/
theorem OwnOd.blkNew (h : OwnOd w base (.slice (some ⟨g, 0, none⟩) n cap) p rows) (hr : rows[k]? = some (odRow x u)) {i : Nat} (e : u.ownBlock = some i) : BlkR (.slice (some ⟨g, 0, none⟩) n cap) rows i :=
  BlkR.of_row hr h.own.wide (j := 3) rfl (by rw [textsD_blocks]; simp [e])
theorem OwnOd.newAt (h : OwnOd w base (.slice (some ⟨g, 0, none⟩) n cap) p rows) (hx : p[k]? = some x) (hr : rows[k]? = some (odRow x u)) : OwnV w base u x.new := by
  have hok := h.ok x (List.mem_of_getElem? hx)
  exact D.own_texts (h.own.datum hr (j := 3) rfl) hok.new
end

/-- The rows of orders that are marked have the blocks that they had. -/
theorem blk_sameO {rows rows' : List (List D)} {v : Value} (h : D.blocksL rows'.flatten = D.blocksL rows.flatten) (g : Nat) : BlkR v rows' g ↔ BlkR v rows g := by unfold BlkR; rw [h]
theorem blocks_rowO {rows : List (List D)} {k : Nat} {x y : Od} {u : Value} (hw : ∀ r ∈ rows, r.length = 4) (hr : rows[k]? = some (odRow x u)) : D.blocksL (rows.set k (odRow y u)).flatten = D.blocksL rows.flatten := by
  induction rows generalizing k with
  | nil => simp at hr
  | cons r rows ih =>
    cases k with
    | zero =>
      simp at hr
      subst hr
      rw [List.set_cons_zero, List.flatten_cons, List.flatten_cons, D.blocksL_append, D.blocksL_append]
      congr 1
      simp only [odRow, D.blocksL, textsD_blocks, D.blocks]
    | succ k =>
      rw [List.set_cons_succ, List.flatten_cons, List.flatten_cons, D.blocksL_append, D.blocksL_append, ih (fun q hq => hw q (by simp [hq])) (by simpa using hr)]

theorem od_info : (Tryz.prog.info? 78).map (fun i => (i.zero, i.size, i.bytes)) = some (some (.agg #[.int .i64 0, .int .i64 0, .int .i64 0, .slice none 0 0]), 4, 48) := by kernel_rfl

theorem snoc_getO {α : Type} {l : List α} {a b : α} {k : Nat} (h : (l ++ [a])[k]? = some b) : (k < l.length ∧ l[k]? = some b) ∨ (k = l.length ∧ b = a) := by
  rw [List.getElem?_append] at h
  split at h
  · exact .inl ⟨by assumption, h⟩
  · have hk : k - l.length = 0 := by
      rcases Nat.eq_zero_or_pos (k - l.length) with h0 | h0
      · exact h0
      · rw [List.getElem?_eq_none (by simp; omega)] at h; cases h
    rw [hk] at h
    injection h with h
    exact .inr ⟨by omega, h.symm⟩
/-- One order is appended: its four cells lie in a block of their own, its list is of the call's own too. -/
theorem OwnOd.snoc {w w' : World} {base : Nat} {v v' : Value} {p : List Od} {rows : List (List D)} {x : Od} {u : Value} (h : OwnOd w base v p rows) (hx : OdOk x) (ho : OwnR w' base v' 78 4 (rows ++ [odRow x u])) : OwnOd w' base v' (p ++ [x]) (rows ++ [odRow x u]) := by
  refine ⟨by simp [h.len], ho, fun k r y hr hy => ?_, fun y hy => ?_⟩
  · rcases snoc_getO hr with ⟨hk, hr⟩ | ⟨hk, rfl⟩
    · rcases snoc_getO hy with ⟨_, hy⟩ | ⟨hk2, _⟩
      · exact h.row k r y hr hy
      · rw [h.len] at hk; omega
    · rcases snoc_getO hy with ⟨hk2, _⟩ | ⟨_, rfl⟩
      · rw [h.len] at hk; omega
      · exact ⟨u, rfl⟩
  · rcases List.mem_append.1 hy with h5 | h5
    · exact h.ok y h5
    · simp at h5; rw [h5]; exact hx
theorem odRow_own {w : World} {base : Nat} {x : Od} {u : Value} (hu : OwnV w base u x.new) : D.ownL w base (odRow x u) ∧ (D.blocksL (odRow x u)).Nodup := by
  refine ⟨⟨rfl, rfl, rfl, hu.datum.own, trivial⟩, ?_⟩
  simp only [odRow, D.blocksL, D.blocks, textsD_blocks, List.nil_append, List.append_nil]
  cases u.ownBlock <;> simp
theorem odRow_blk {x : Od} {u v : Value} {rows : List (List D)} (hf : ∀ g, u.ownBlock = some g → ¬ BlkR v rows g) : ∀ g ∈ D.blocksL (odRow x u), ¬ BlkR v rows g := by
  intro g hg
  simp only [odRow, D.blocksL, D.blocks, textsD_blocks, List.nil_append, List.append_nil] at hg
  exact hf g (by simpa using hg)
theorem odRow_cells {w : World} {gb : Nat} {x : Od} {u : Value} (h0 : w.cell? ⟨gb, 0, none⟩ = some (.int .i64 x.kd)) (h1 : w.cell? ⟨gb, 1, none⟩ = some (.int .i64 x.fr)) (h2 : w.cell? ⟨gb, 2, none⟩ = some (.int .i64 x.to_)) (h3 : w.cell? ⟨gb, 3, none⟩ = some u) :
    ∀ j d, (odRow x u)[j]? = some d → w.cell? ((⟨gb, 0, none⟩ : Addr).add j) = some d.val := by
  intro j d hd
  match j, hd with
  | 0, hd => simp [odRow] at hd; subst hd; simpa [Addr.add, D.val] using h0
  | 1, hd => simp [odRow] at hd; subst hd; simpa [Addr.add, D.val] using h1
  | 2, hd => simp [odRow] at hd; subst hd; simpa [Addr.add, D.val] using h2
  | 3, hd => simp [odRow] at hd; subst hd; simpa [Addr.add, D.val, textsD] using h3
  | j + 4, hd => simp [odRow] at hd

theorem wpList_od {w : World} {ops : Array Oper} {rest : List Oper} {o : Oper} {a : Act} {Q : Exit → Act → World → Prop} (s y : Operand) (base : Nat) (v : Value) (p : List Od) (rows : List (List D)) (hown : OwnOd w base v p rows) (x : Od) (hx : OdOk x) (u : Value) (hu : OwnV w base u x.new)
    (hf : ∀ g, u.ownBlock = some g → ¬ BlkR v rows g)
    (gb : Nat) (h0 : w.cell? ⟨gb, 0, none⟩ = some (.int .i64 x.kd)) (h1 : w.cell? ⟨gb, 1, none⟩ = some (.int .i64 x.fr)) (h2 : w.cell? ⟨gb, 2, none⟩ = some (.int .i64 x.to_)) (h3 : w.cell? ⟨gb, 3, none⟩ = some u) (hbound : p.length ≤ 1048576) (hbase : base ≤ w.heap.size)
    (hgd : Region.wanted o (yielded ops a.tmps) = true) (ho : o.op = .call { callee := .builtin .append, args := #[s, y], argTypes := #[24, 24] }) (hs : a.eval s = v) (hy : a.eval y = .slice (some ⟨gb, 0, none⟩) 1 1)
    (h : ∀ v' w', OwnOd w' base v' (p ++ [x]) (rows ++ [odRow x u]) → w.grownBy w' v.ownBlock → (v'.ownBlock = v.ownBlock ∨ v'.ownBlock = some w.heap.size) → wpList Tryz.prog ops Q rest (a.put o.dst v') w') : wpList Tryz.prog ops Q (o :: rest) a w := by
  obtain ⟨i, q1, q2, q3, q4⟩ := info_parts od_info
  obtain ⟨r1, r2⟩ := odRow_own (x := x) hu
  exact wpList_app_R Tryz.underlying24 q1 q2 q3 q4 (by simp [Value.cells]) (by omega) s y base v rows hown.own (odRow x u) rfl r1 r2 (odRow_blk hf) ⟨gb, 0, none⟩ 1 (odRow_cells h0 h1 h2 h3) (by rw [hown.len]; exact hbound) (by omega) hbase hgd ho hs hy (fun v' w' o' => h v' w' (hown.snoc hx o'))

end Go.Proofs.YtnnaigoomipklaaGreatDoor
