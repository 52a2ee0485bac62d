/-
  A block of texts of the call's own: what copy, clear and append write into it; what a slice of it reads then.
-/
import Derived.Test.YtnnaigoomipklaaGreatDoorOiHPatch
import Derived.Test.YtnnaigoomipklaaGreatDoorOiHGoods
import Derived.Test.YtnnaigoomipklaaGreatDoorOiOMem
import Derived.Lib.Overlaps
import Derived.Lib.AppendZerosOnto
import Derived.Lib.SliceRun
import Derived.Laws.Externs
import Derived.ArgAppend
set_option linter.unusedSimpArgs false
set_option linter.unusedVariables false
namespace Go.Proofs.YtnnaigoomipklaaGreatDoor
open Go.RowKit Go.ChangeShapes Go.WideShapes M

theorem setCells_row (g : Nat) : ∀ (vs : List Value) (off : Nat) (cur : List Value) (w : World), RowV w g cur → off + vs.length ≤ cur.length → RowV (w.setCells g off vs) g (splice cur off vs) ∧ Wrote (fun k => k = g) w (w.setCells g off vs)
  | [], off, cur, w, h, _ => by
    refine ⟨?_, Wrote.refl _ _⟩
    show RowV w g _
    simpa [splice] using h
  | v :: r, off, cur, w, h, hl => by
    simp only [List.length_cons] at hl
    have h1 : RowV (w.setCell ⟨g, off, none⟩ v) g (cur.set off v) := by
      unfold RowV at h ⊢
      simp [World.setCell, Array.getElem?_modify, h]
    obtain ⟨h2, h3⟩ := setCells_row g r (off + 1) (cur.set off v) _ h1 (by simp; omega)
    refine ⟨?_, (Wrote.set (fun k => k = g) w ⟨g, off, none⟩ v rfl).trans h3 (fun _ _ e => e)⟩
    have e : splice (cur.set off v) (off + 1) r = splice cur off (v :: r) := by
      unfold splice
      rw [List.take_set, List.length_cons, List.drop_set_of_lt (by omega), show off + 1 + r.length = off + (r.length + 1) by omega]
      have : (cur.take (off + 1)).set off v = cur.take off ++ [v] := by
        rw [List.take_add_one, List.getElem?_eq_getElem (by omega), List.set_append_right _ _ (by simp; omega)]
        simp [Nat.min_eq_left (show off ≤ cur.length by omega)]
      rw [this]
      simp
    rw [← e]
    exact h2

theorem run_copy_w {w : World} (ty : TypeId) (dp sp : Option Addr) (dLen dCap sLen sCap g off : Nat) (cur cs : List Value) (hg : RowV w g cur) (hn : cs.length = Nat.min sLen dLen)
    (hpos : 0 < cs.length → dp = some ⟨g, off, none⟩ ∧ ∃ ad, sp = some ad ∧ ∀ j v, cs[j]? = some v → w.cell? (ad.add j) = some v) (hfit : off + cs.length ≤ cur.length) (h1 : ∀ v ∈ cs, v.oneCell' = true) :
    ∃ w', (Builtin.copy_ #[33, 33] ty #[.slice dp dLen dCap, .slice sp sLen sCap]).run Tryz.prog w = .ok (goInt cs.length) w' ∧ RowV w' g (splice cur off cs) ∧ Wrote (fun k => k = g) w w' := by
  have hsz : (Tryz.prog.info? 9).map (·.size) = some 1 := by kernel_rfl
  by_cases h0 : cs.length = 0
  · obtain rfl : cs = [] := List.eq_nil_of_length_eq_zero h0
    refine ⟨w, run_copy_none (P := Tryz.prog) w 33 33 ty 9 dp sp dLen dCap sLen sCap Tryz.underlying33 hsz (by simpa using hn.symm), by simpa [splice] using hg, Wrote.refl _ _⟩
  · obtain ⟨rfl, ad, rfl, hsrc⟩ := hpos (by omega)
    obtain ⟨h2, h3⟩ := setCells_row g cs off cur w hg hfit
    exact ⟨_, run_copy_cells w 33 33 ty 9 g off dLen dCap ad sLen sCap cs Tryz.underlying33 hsz hn hsrc (fun j hj => hg.some_ (by omega)) (fun j _ => hg.free) h1, h2, h3⟩

theorem wpList_copy_w {w : World} {ops : Array Oper} {rest : List Oper} {o : Oper} {a : Act} {Q : Exit → Act → World → Prop} (d s : Operand) (dp sp : Option Addr) (dLen dCap sLen sCap g off : Nat) (cur cs : List Value) (hg : RowV w g cur) (hn : cs.length = Nat.min sLen dLen)
    (hpos : 0 < cs.length → dp = some ⟨g, off, none⟩ ∧ ∃ ad, sp = some ad ∧ ∀ j v, cs[j]? = some v → w.cell? (ad.add j) = some v) (hfit : off + cs.length ≤ cur.length) (h1 : ∀ v ∈ cs, v.oneCell' = true)
    (hgd : Region.wanted o (yielded ops a.tmps) = true) (ho : o.op = .call { callee := .builtin .copy, args := #[d, s], argTypes := #[33, 33] }) (hd : a.eval d = .slice dp dLen dCap) (hs : a.eval s = .slice sp sLen sCap)
    (h : ∀ w', RowV w' g (splice cur off cs) → Wrote (fun k => k = g) w w' → wpList Tryz.prog ops Q rest (a.put o.dst (goInt cs.length)) w') : wpList Tryz.prog ops Q (o :: rest) a w := by
  obtain ⟨w', hrun, h2, h3⟩ := run_copy_w o.type dp sp dLen dCap sLen sCap g off cur cs hg hn hpos hfit h1
  refine wpList_wanted hgd fun K hK => ?_
  unfold Oper.wp execOp
  simp only [ho, resolve, invoke, builtin, Sem.run_bind, Sem.run_pure, Result.andThen_ok, List.map_toArray, List.map_cons, List.map_nil, hd, hs, hrun]
  exact hK _ _ (h w' h2 h3)
theorem step_copy_w {w : World} {ops : Array Oper} {o : Oper} {a : Act} {K : Act → World → Prop} {Q : Exit → Act → World → Prop} {E : Prop} (d s : Operand) (dp sp : Option Addr) (dLen dCap sLen sCap g off : Nat) (cur cs : List Value) (hg : RowV w g cur) (hn : cs.length = Nat.min sLen dLen)
    (hpos : 0 < cs.length → dp = some ⟨g, off, none⟩ ∧ ∃ ad, sp = some ad ∧ ∀ j v, cs[j]? = some v → w.cell? (ad.add j) = some v) (hfit : off + cs.length ≤ cur.length) (h1 : ∀ v ∈ cs, v.oneCell' = true)
    (hgd : Region.wanted o (yielded ops a.tmps) = true) (ho : o.op = .call { callee := .builtin .copy, args := #[d, s], argTypes := #[33, 33] }) (hd : a.eval d = .slice dp dLen dCap) (hs : a.eval s = .slice sp sLen sCap)
    (h : ∀ w', RowV w' g (splice cur off cs) → Wrote (fun k => k = g) w w' → K (a.put o.dst (goInt cs.length)) w') : if Region.wanted o (yielded ops a.tmps) = true then Oper.wp Tryz.prog o a w K Q else E := by
  rw [if_pos hgd]
  obtain ⟨w', hrun, h2, h3⟩ := run_copy_w o.type dp sp dLen dCap sLen sCap g off cur cs hg hn hpos hfit h1
  unfold Oper.wp execOp
  simp only [ho, resolve, invoke, builtin, Sem.run_bind, Sem.run_pure, Result.andThen_ok, List.map_toArray, List.map_cons, List.map_nil, hd, hs, hrun]
  exact h w' h2 h3

/-- Cells are cleared. -/
theorem run_clear_w {w : World} (ty : TypeId) (g off n c : Nat) (cur : List Value) (hg : RowV w g cur) (hn : 0 < n) (hfit : off + n ≤ cur.length) :
    ∃ w' Z, (Builtin.clear_ #[33] ty #[.slice (some ⟨g, off, none⟩) n c]).run Tryz.prog w = .ok (.tuple #[]) w' ∧ Z.length = n ∧ RowV w' g (splice cur off Z) ∧ Wrote (fun k => k = g) w w' := by
  obtain ⟨i, q1, q2, q3, q4⟩ := info_parts str_info
  have hz : ∀ w, (zeroValue 9).run Tryz.prog w = .ok (.string ByteArray.empty) w := fun w => by simp [zeroValue, typeInfo, q1, q2]
  obtain ⟨h2, h3⟩ := setCells_row g (List.replicate n (.string ByteArray.empty)) off cur w hg (by simpa using hfit)
  exact ⟨_, _, Lib.run_clear_slice w 33 9 ty (.string ByteArray.empty) Tryz.underlying33 hz rfl rfl g off n c hn (fun j hj => hg.some_ (by omega)) (fun j _ => hg.free), by simp, h2, h3⟩
theorem wpList_clear_w {w : World} {ops : Array Oper} {rest : List Oper} {o : Oper} {a : Act} {Q : Exit → Act → World → Prop} (s : Operand) (g off n c : Nat) (cur : List Value) (hg : RowV w g cur) (hn : 0 < n) (hfit : off + n ≤ cur.length)
    (hgd : Region.wanted o (yielded ops a.tmps) = true) (ho : o.op = .call { callee := .builtin .clear, args := #[s], argTypes := #[33] }) (hs : a.eval s = .slice (some ⟨g, off, none⟩) n c)
    (h : ∀ w' Z, Z.length = n → RowV w' g (splice cur off Z) → Wrote (fun k => k = g) w w' → wpList Tryz.prog ops Q rest (a.put o.dst (.tuple #[])) w') : wpList Tryz.prog ops Q (o :: rest) a w := by
  obtain ⟨w', Z, hrun, h1, h2, h3⟩ := run_clear_w o.type g off n c cur hg hn hfit
  refine wpList_wanted hgd fun K hK => ?_
  unfold Oper.wp execOp
  simp only [ho, resolve, invoke, builtin, Sem.run_bind, Sem.run_pure, Result.andThen_ok, List.map_toArray, List.map_cons, List.map_nil, hs, hrun]
  exact hK _ _ (h w' Z h1 h2 h3)

theorem wpList_clear_none {w : World} {ops : Array Oper} {rest : List Oper} {o : Oper} {a : Act} {Q : Exit → Act → World → Prop} (s : Operand) (A : Option Addr) (c : Nat)
    (hgd : Region.wanted o (yielded ops a.tmps) = true) (ho : o.op = .call { callee := .builtin .clear, args := #[s], argTypes := #[33] }) (hs : a.eval s = .slice A 0 c)
    (h : wpList Tryz.prog ops Q rest (a.put o.dst (.tuple #[])) w) : wpList Tryz.prog ops Q (o :: rest) a w := by
  obtain ⟨i, q1, q2, q3, q4⟩ := info_parts str_info
  have hz : ∀ w, (zeroValue 9).run Tryz.prog w = .ok (.string ByteArray.empty) w := fun w => by simp [zeroValue, typeInfo, q1, q2]
  have hrun : (Builtin.clear_ #[33] o.type #[.slice A 0 c]).run Tryz.prog w = .ok (.tuple #[]) w := by
    cases A <;> simp [Builtin.clear_, run_underlying Tryz.underlying33, hz, Builtin.zeroCells, storeCells]
  refine wpList_wanted hgd fun K hK => ?_
  unfold Oper.wp execOp
  simp only [ho, resolve, invoke, builtin, Sem.run_bind, Sem.run_pure, Result.andThen_ok, List.map_toArray, List.map_cons, List.map_nil, hs, hrun]
  exact hK _ _ h

/-- Where there is room, append writes behind the slice's end. -/
theorem run_room_w {w : World} (ty : TypeId) (g n cap : Nat) (B : Option Addr) (m c : Nat) (cur cs : List Value) (hg : RowV w g cur) (hl : cs.length = m) (hroom : n + m ≤ cap) (hcap : cap ≤ cur.length) (hsrc : 0 < m → ∃ ad, B = some ad ∧ ∀ j v, cs[j]? = some v → w.cell? (ad.add j) = some v) (h1 : ∀ v ∈ cs, v.oneCell' = true) :
    ∃ w', (Builtin.append_ #[33, 33] ty #[.slice (some ⟨g, 0, none⟩) n cap, .slice B m c]).run Tryz.prog w = .ok (.slice (some ⟨g, 0, none⟩) (n + m) cap) w' ∧ RowV w' g (splice cur n cs) ∧ Wrote (fun k => k = g) w w' := by
  obtain ⟨i, q1, q2, q3, q4⟩ := info_parts str_info
  by_cases h0 : m = 0
  · subst h0
    obtain rfl : cs = [] := List.eq_nil_of_length_eq_zero hl
    refine ⟨w, ?_, by simpa [splice] using hg, Wrote.refl _ _⟩
    have hnc : n ≤ cap := by omega
    cases B with
    | none => simp [Builtin.append_, run_underlying Tryz.underlying33, sizeOf, typeInfo, q1, Builtin.lenOf, Builtin.firstCells, hnc, storeCells]
    | some ad => simp [Builtin.append_, run_underlying Tryz.underlying33, sizeOf, typeInfo, q1, Builtin.lenOf, Builtin.firstCells, hnc, storeCells, loadCells, loadCellsFrom]
  · obtain ⟨ad, rfl, hs⟩ := hsrc (by omega)
    obtain ⟨h2, h3⟩ := setCells_row g cs n cur w hg (by omega)
    have := run_append_room_cells (P := Tryz.prog) w 33 ty 9 i Tryz.underlying33 q1 g 0 n cap ad m c cs (by rw [q3, hl, Nat.mul_one]) hs h1 hroom (fun j hj => by rw [q3]; exact hg.some_ (by omega)) (fun j _ => hg.free)
    rw [q3, Nat.mul_one, Nat.zero_add] at this
    exact ⟨_, this, h2, h3⟩
theorem wpList_room_w {w : World} {ops : Array Oper} {rest : List Oper} {o : Oper} {a : Act} {Q : Exit → Act → World → Prop} (s x : Operand) (g n cap : Nat) (B : Option Addr) (m c : Nat) (cur cs : List Value) (hg : RowV w g cur) (hl : cs.length = m) (hroom : n + m ≤ cap) (hcap : cap ≤ cur.length) (hsrc : 0 < m → ∃ ad, B = some ad ∧ ∀ j v, cs[j]? = some v → w.cell? (ad.add j) = some v) (h1 : ∀ v ∈ cs, v.oneCell' = true)
    (hgd : Region.wanted o (yielded ops a.tmps) = true) (ho : o.op = .call { callee := .builtin .append, args := #[s, x], argTypes := #[33, 33] }) (hs : a.eval s = .slice (some ⟨g, 0, none⟩) n cap) (hx : a.eval x = .slice B m c)
    (h : ∀ w', RowV w' g (splice cur n cs) → Wrote (fun k => k = g) w w' → wpList Tryz.prog ops Q rest (a.put o.dst (.slice (some ⟨g, 0, none⟩) (n + m) cap)) w') : wpList Tryz.prog ops Q (o :: rest) a w := by
  obtain ⟨w', hrun, h2, h3⟩ := run_room_w o.type g n cap B m c cur cs hg hl hroom hcap hsrc h1
  refine wpList_wanted hgd fun K hK => ?_
  unfold Oper.wp execOp
  simp only [ho, resolve, invoke, builtin, Sem.run_bind, Sem.run_pure, Result.andThen_ok, List.map_toArray, List.map_cons, List.map_nil, hs, hx, hrun]
  exact hK _ _ (h w' h2 h3)

theorem three_list (L : List Value) (X Y : Array Value) : L.toArray ++ X ++ Y = (L ++ (X.toList ++ Y.toList)).toArray := by
  apply Array.ext'
  simp
theorem add_g {g : Nat} (j : Nat) : (⟨g, 0, none⟩ : Addr).add j = ⟨g, j, none⟩ := by unfold Addr.add; by_cases h0 : j = 0 <;> simp [h0]
/-- Where there is no room, blanks are appended in a new block. -/
theorem run_blanks_w {w : World} (ty : TypeId) (A : Option Addr) (n cap d q : Nat) (cur : List Value) (g : Nat) (hA : A = some ⟨g, 0, none⟩) (hg : RowV w g cur) (hn : n ≤ cur.length) (hq : n + d = q) (hd : 0 < d) (hgrow : cap < q) (hbig : q ≤ 4294967296) :
    ∃ w' G Z, (Builtin.append_ #[33, 3] ty #[.slice A n cap, .int .i64 (d : Int)]).run Tryz.prog w = .ok (.slice (some ⟨w.heap.size, 0, none⟩) q G) w' ∧ RowV w' w.heap.size (cur.take n ++ Z) ∧ n + Z.length = G ∧ q ≤ G ∧ G ≤ maxLen ∧ Below w.heap.size w w' := by
  obtain ⟨i, q1, q2, q3, q4⟩ := info_parts str_info
  subst hA hq
  have hold : (Builtin.firstCells i.size n (.slice (some ⟨g, 0, none⟩) n cap)).run Tryz.prog w.drew = .ok (cur.take n).toArray w.drew := by
    rw [q3]
    exact run_firstCells_some w.drew 1 n ⟨g, 0, none⟩ n cap (cur.take n) (by rw [List.length_take]; omega) (fun j v hj => by
      rw [add_g]
      rw [List.getElem?_take] at hj
      split at hj
      · exact hg.cell hj
      · cases hj)
  have hr := Lib.run_append_grow_zeros (P := Tryz.prog) w 33 3 ty 9 i _ .i64 .i64 Tryz.underlying33 Tryz.underlying3 q1 q2 (some ⟨g, 0, none⟩) n cap (cur.take n) hold d hd (by omega) (by omega) (by omega) (by rw [q4]; omega) (by rw [q4]; exact growslice_fits (by omega) (by omega))
  have hG : n + d ≤ grownCap w (n + d) cap 9 ∧ grownCap w (n + d) cap 9 ≤ maxLen := ⟨grownCap_ge _ _ _ _, grownCap_le_maxLen _ _ _ _ (by unfold maxLen; omega)⟩
  have hrow : RowV (w.drew.alloc (.cells ((cur.take n).toArray ++ Builtin.zeroCells (Value.string ByteArray.empty).cells d ++ Builtin.zeroCells (Value.string ByteArray.empty).cells (grownCap w (n + d) cap 9 - (n + d))) 9)) w.heap.size (cur.take n ++ ((Builtin.zeroCells (Value.string ByteArray.empty).cells d).toList ++ (Builtin.zeroCells (Value.string ByteArray.empty).cells (grownCap w (n + d) cap 9 - (n + d))).toList)) := by
    have := heap_alloc_new w.drew (.cells ((cur.take n).toArray ++ Builtin.zeroCells (Value.string ByteArray.empty).cells d ++ Builtin.zeroCells (Value.string ByteArray.empty).cells (grownCap w (n + d) cap 9 - (n + d))) 9)
    unfold RowV
    rw [← three_list]
    exact this
  refine ⟨_, _, _, hr, hrow, ?_, hG.1, hG.2, (Below.refl _ w).drew.next (below_alloc w.drew _)⟩
  have hz : ∀ k, (Builtin.zeroCells (Value.string ByteArray.empty).cells k).size = k := fun k => by simp [Builtin.zeroCells, Value.cells]
  rw [List.length_append, Array.length_toList, Array.length_toList, hz, hz]
  have := hG.1
  omega

theorem wpList_blanks_w {w : World} {ops : Array Oper} {rest : List Oper} {o : Oper} {a : Act} {Q : Exit → Act → World → Prop} (s x : Operand) (n cap d q : Nat) (cur : List Value) (g : Nat) (hg : RowV w g cur) (hn : n ≤ cur.length) (hq : n + d = q) (hd : 0 < d) (hgrow : cap < q) (hbig : q ≤ 4294967296)
    (hgd : Region.wanted o (yielded ops a.tmps) = true) (ho : o.op = .call { callee := .builtin .append, args := #[s, x], argTypes := #[33, 3] }) (hs : a.eval s = .slice (some ⟨g, 0, none⟩) n cap) (hx : a.eval x = .int .i64 (d : Int))
    (h : ∀ w' G Z, RowV w' w.heap.size (cur.take n ++ Z) → n + Z.length = G → q ≤ G → G ≤ maxLen → Below w.heap.size w w' → wpList Tryz.prog ops Q rest (a.put o.dst (.slice (some ⟨w.heap.size, 0, none⟩) q G)) w') : wpList Tryz.prog ops Q (o :: rest) a w := by
  obtain ⟨w', G, Z, hrun, h2, h3, h4, h5, h6⟩ := run_blanks_w (w := w) o.type (some ⟨g, 0, none⟩) n cap d q cur g rfl hg hn hq hd hgrow hbig
  refine wpList_wanted hgd fun K hK => ?_
  unfold Oper.wp execOp
  simp only [ho, resolve, invoke, builtin, Sem.run_bind, Sem.run_pure, Result.andThen_ok, List.map_toArray, List.map_cons, List.map_nil, hs, hx, hrun]
  exact hK _ _ (h w' G Z h2 h3 h4 h5 h6)
theorem cut_hi_w (a : Option Addr) (n c hi : Nat) (h2 : hi ≤ c) (w : World) :
    (Instr.slice 33 (.slice a n c) none (some (.int .i64 (hi : Int))) none).run Tryz.prog w = .ok (.slice a hi c) w := by
  obtain ⟨i, h3, h4, h5, h6⟩ := info_parts str_info
  exact run_cut_hi Tryz.underlying33 h3 h5 a n c hi h2 w

end Go.Proofs.YtnnaigoomipklaaGreatDoor
