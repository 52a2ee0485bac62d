/-
  EdOrders, the program's: a range over slices.Backward.
-/
import Derived.Test.YtnnaigoomipklaaGreatDoorOiOForI
import Derived.Test.YtnnaigoomipklaaGreatDoorOiHPatch
import Derived.Test.YtnnaigoomipklaaGreatDoorOiOEdS
import Derived.RangeFuncBox
import Derived.RangeFuncBound
import Derived.RangeFuncCalls
import Derived.RangeFuncLeaves
import Derived.RangeFuncNested
import Derived.Shelf.Abstract
import Derived.Shelf.RegionOpen
import Derived.WalkKit
import Derived.OwnWalkIn
import Derived.TacticsInMore
import Derived.LoopNIn
import Derived.LoopIn
import Derived.Maps.AppendAt
set_option linter.unusedSimpArgs false
set_option linter.unusedVariables false
namespace Go.Proofs.YtnnaigoomipklaaGreatDoor.M
open Go

theorem edO_snoc : ∀ (l : List Hk) (x : Hk), edO (l ++ [x]) = edOne x ++ edO l
  | [], x => by simp [edO]
  | y :: l, x => by rw [List.cons_append]; unfold edO; rw [edO_snoc l x, List.append_assoc]
/-- The orders of the hunk at a place. -/
def edAt (hs : List Hk) (i : Nat) : List Od := match hs[i]? with
  | some x => edOne x
  | none => []
theorem edAt_some {hs : List Hk} {i : Nat} {x : Hk} (h : hs[i]? = some x) : edAt hs i = edOne x := by unfold edAt; rw [h]
theorem edAt_all (hs : List Hk) : ∀ k, k ≤ hs.length → (List.range k).reverse.flatMap (edAt hs) = edO (hs.take k)
  | 0, _ => by simp [edO]
  | k + 1, h => by
    have e : hs[k]? = some hs[k] := List.getElem?_eq_getElem (by omega)
    rw [List.range_succ, List.reverse_append, List.reverse_singleton, List.singleton_append, List.flatMap_cons, edAt_all hs k (by omega), edAt_some e, take_snoc e, edO_snoc]
theorem edOne_len (x : Hk) : (edOne x).length ≤ x.new.length + 1 := by
  unfold edOne
  have := fixO_len x.new x.at_.toNat
  simp
  omega

end Go.Proofs.YtnnaigoomipklaaGreatDoor.M

namespace Go.Proofs.YtnnaigoomipklaaGreatDoor
open Go.RowKit Go.Shelf Go.ChangeShapes Go.WideShapes M
attribute [local go_sem] Oper.semAt_some

/-- Orders of the call's own are appended, all of them. -/
theorem run_app_ods {w : World} (ty : TypeId) (base fb : Nat) (v : Value) (p : List Od) (rows : List (List D)) (hown : OwnOd w base v p rows) (g m c : Nat) (f : List Od) (rf : List (List D)) (hf : OwnOd w fb (.slice (some ⟨g, 0, none⟩) m c) f rf)
    (hfar : ∀ k, BlkR v rows k → k < fb) (hfb : base ≤ fb) (hbound : p.length + m ≤ 1048576) (hbase : base ≤ w.heap.size) :
    ∃ v' w', (Builtin.append_ #[24, 24] ty #[v, .slice (some ⟨g, 0, none⟩) m c]).run Tryz.prog w = .ok v' w' ∧ OwnOd w' base v' (p ++ f) (rows ++ rf) ∧ w.grownBy w' v.ownBlock ∧ (v'.ownBlock = v.ownBlock ∨ v'.ownBlock = some w.heap.size) := by
  obtain ⟨i, q1, q2, q3, q4⟩ := info_parts od_info
  have hrows : rows.length = p.length := hown.len
  have hrf : rf.length = m := by rw [hf.len]; exact hf.len_
  have hwid := hf.own.wide
  have hcells : ∀ j d, rf.flatten[j]? = some d → w.cell? ((⟨g, 0, none⟩ : Addr).add j) = some d.val := by
    intro j d hj
    have e : (⟨g, 0, none⟩ : Addr).add j = ⟨g, j, none⟩ := by unfold Addr.add; by_cases h0 : j = 0 <;> simp [h0]
    rw [e]
    have h1 := hf.own.own
    rw [hrf] at h1
    exact h1.cell hj
  have hnd := hf.own.own.nodup
  rw [D.blocks, List.nodup_append] at hnd
  obtain ⟨v', w', hrun, h1, h2, h3⟩ := run_app_D (ty := ty) Tryz.underlying24 q1 q2 q3 q4 (by simp [Value.cells]) (by omega) base v rows.length rows.flatten hown.own.own rf.flatten m (by rw [flat_len hwid, hrf]) (D.ownL_more hfb hf.own.own.own.2) hnd.2.1 (fun k hk hk2 => by
      have := hfar k hk2
      have := (D.ownL_lt hf.own.own.own.2 hk).1
      omega) ⟨g, 0, none⟩ c hcells (by unfold maxLen; omega) (by omega) hbase
  refine ⟨v', w', hrun, ⟨by rw [List.length_append, List.length_append, hrows, hf.len], ⟨by rw [List.flatten_append, List.length_append, hrf]; exact h1, fun r hr => ?_⟩, fun k r x hr hx => ?_, fun x hx => ?_⟩, h2, h3⟩
  · rcases List.mem_append.1 hr with h | h
    · exact hown.own.wide r h
    · exact hwid r h
  · rcases Nat.lt_or_ge k rows.length with hk | hk
    · rw [List.getElem?_append_left hk] at hr
      rw [List.getElem?_append_left (by omega)] at hx
      exact hown.row k r x hr hx
    · rw [List.getElem?_append_right hk] at hr
      rw [List.getElem?_append_right (by omega)] at hx
      exact hf.row _ r x (by rw [hrows] at hr; exact hr) hx
  · rcases List.mem_append.1 hx with h | h
    · exact hown.ok x h
    · exact hf.ok x h

theorem stepIn_app_ods {F : Fence} {n : Nat} {w : World} {ops : Array Oper} {o : Oper} {a : Act} {K : Act → World → Prop} {Q : Exit → Act → World → Prop} {E : Prop} (s y : Operand)
    (base fb : Nat) (v : Value) (p : List Od) (rows : List (List D)) (hown : OwnOd w base v p rows) (g m c : Nat) (f : List Od) (rf : List (List D)) (hf : OwnOd w fb (.slice (some ⟨g, 0, none⟩) m c) f rf)
    (hfar : ∀ k, BlkR v rows k → k < fb) (hfb : base ≤ fb) (hbound : p.length + m ≤ 1048576) (hbase : base ≤ w.heap.size)
    (hgd : Region.wanted o (yielded ops a.tmps) = true) (hop : o.op = .call { callee := .builtin .append, args := #[s, y], argTypes := #[24, 24] }) (hs : a.eval s = v) (hy : a.eval y = .slice (some ⟨g, 0, none⟩) m c)
    (h : ∀ v' w', OwnOd w' base v' (p ++ f) (rows ++ rf) → w.grownBy w' v.ownBlock → (v'.ownBlock = v.ownBlock ∨ v'.ownBlock = some w.heap.size) → K (a.put o.dst v') w') : if Region.wanted o (yielded ops a.tmps) = true then Oper.wpIn F n Tryz.prog o a w K Q else E := by
  rw [if_pos hgd]
  obtain ⟨v', w', hrun, r1, r2, r3⟩ := run_app_ods o.type base fb v p rows hown g m c f rf hf hfar hfb hbound hbase
  unfold Oper.wpIn
  refine ⟨?_, ?_⟩
  · simp [Oper.about, hop, resolve, Target.leads, Sem.run_pure]
  · rw [Oper.semAt_plain F _ _ (by rw [hop]; intro c hc'; cases hc')]
    simp [execOp, hop, resolve, invoke, builtin, hs, hy, hrun, Result.andThen]
    exact h v' w' r1 r2 r3

/-- A hunk that is handed on, with its place. -/
structure Bk (hs : List Hk) (w : World) where
  i : Nat
  a : Nat
  g : Nat
  new : List ByteArray
  A : Option Addr
  m : Nat
  c : Nat
  hx : hs[i]? = some ⟨a, g, new⟩
  hs1 : Strs w A m new
  hm : m ≤ c
/-- What a round keeps for the iterator: all that lay there, and the captured slice. -/
def KpB (b N : Nat) (A B : World) : Prop := (∀ v, A.cell? ⟨b, 0, none⟩ = some v → B.cell? ⟨b, 0, none⟩ = some v) ∧ Below N A B
theorem KpB.t {b N : Nat} {A B C : World} (h : KpB b N A B) (k : KpB b N B C) : KpB b N A C := ⟨fun v hv => k.1 v (h.1 v hv), h.2.trans k.2⟩
theorem KpB.b {b N : Nat} {w : World} (hN : N ≤ w.heap.size) (W : World) (l : Nat) (o o' : Obj) (hl : w.heap.size ≤ l) (h : W.heap[l]? = some o) (hc : o.isCells = false) (hw : o.isWalk = false) : KpB b N W (W.putObj l o') :=
  ⟨fun v hv => cell_kept hv (grownBy_putObj' W l o') (fun r e => by cases e; exact ⟨o, h, hc⟩), belowK_b hN W l o o' hl h hc hw⟩

/-- The places from the last one. -/
theorem down_step {pre : List Nat} {n k : Nat} (h : pre ++ (List.range (k + 1)).reverse = (List.range n).reverse) : (pre ++ [k]) ++ (List.range k).reverse = (List.range n).reverse := by
  rw [← h, List.range_succ, List.reverse_append, List.reverse_singleton, List.append_assoc]
theorem down_len {pre : List Nat} {n k : Nat} (h : pre ++ (List.range k).reverse = (List.range n).reverse) : pre.length + k = n := by
  have := congrArg List.length h
  simpa using this

def encB {hs : List Hk} {w : World} (x : Bk hs w) : Array Value := #[.int .i64 x.i, .agg #[.int .i64 x.a, .int .i64 x.g, .slice x.A x.m x.c]]

set_option maxRecDepth 100000 in
set_option maxHeartbeats 1000000 in
theorem back1_in (F : Fence) (d : Nat) (h6 : F.fn 138) (hro : F.round = none) (hd : 1 ≤ d) (l Bs : Nat) (b0 : Option Addr) (n c : Nat) (hs : List Hk) (w0 : World) (hh : Hks w0 b0 n hs) (hn : n ≤ 1048576) (hpos : ∀ x ∈ hs, 0 ≤ x.at_ ∧ 0 ≤ x.gone)
    (J Jx : List (Bk hs w0) → World → Prop) (W : World)
    (hY : ∀ pre x W, J pre W → pre.length < n + 1 → YieldAt F (d - 1) Tryz.prog l (encB x) W fun e W' =>
      (e = .returned (.bool true) ∧ J (pre ++ [x]) W' ∧ KpB Bs w0.heap.size W W') ∨ (e = .returned (.bool false) ∧ Jx (pre ++ [x]) W'))
    (hBs : W.cell? ⟨Bs, 0, none⟩ = some (.slice b0 n c)) (hW : Below w0.heap.size w0 W) (h0 : J [] W) :
    CallsIn F d Tryz.prog 138 #[.func (.yield l) #[] #[], .pointer (some ⟨Bs, 0, none⟩)] W fun e W' => (∃ v, e = .returned v) ∧
      ((∃ ys : List (Bk hs w0), ys.map (·.i) = (List.range n).reverse ∧ J ys W') ∨ (∃ pre : List (Bk hs w0), True ∧ Jx pre W')) := by
  refine callsIn_of_wp Tryz.func138 rfl h6 ?_ hro
  simp only [Tryz.ntmps138, List.size_toArray, List.length_cons, List.length_nil, Nat.reduceAdd, Nat.reduceSub, Array.replicate_succ, Array.replicate_zero, List.push_toArray, List.append_toArray, List.nil_append, List.cons_append]
  have hw0 : IntKind.i64.wrap ((n : Int) - 1) = (n : Int) - 1 := by rw [IntKind.wrap_i64]; omega
  have HPOS := Lib.hid hpos
  have HN := Lib.hid hn
  clear hpos
  gi_wp2
  gi_loopw [3] (fun iv wr => ∃ (pre : List (Bk hs w0)) (j : Nat), iv = .int .i64 ((j : Int) - 1) ∧ Hid (pre.map (·.i) ++ (List.range j).reverse = (List.range n).reverse) ∧ wr.cell? ⟨Bs, 0, none⟩ = some (.slice b0 n c) ∧ Below w0.heap.size w0 wr ∧ J pre wr) (fun iv _ => (intOf iv + 1).toNat)
  case atStart => exact ⟨[], n, rfl, Lib.hid (by simp), hBs, hW, h0⟩
  case round =>
    obtain ⟨pre, j, rfl, HP, hc, hb, hJp⟩ := hrel
    have HL := Lib.hid (down_len HP.out)
    rw [List.length_map] at HL
    by_cases hj0 : j = 0
    · have hd : decide ((0 : Int) ≤ (j : Int) - 1) = false := by simp; omega
      have HE := Lib.hid (show pre.map (·.i) = (List.range n).reverse by have := HP.out; rw [hj0] at this; simpa using this)
      clear hY
      gi_wp2
      go_end0
      exact ⟨⟨_, rfl⟩, .inl ⟨_, HE.out, hJp⟩⟩
    · obtain ⟨k, rfl⟩ : ∃ k, j = k + 1 := ⟨j - 1, by omega⟩
      have e1 : (((k + 1 : Nat) : Int) - 1) = (k : Int) := by omega
      rw [e1]
      have hkn : k < n := by have := HL.out; omega
      have hdd : decide ((0 : Int) ≤ (k : Int)) = true := by simp
      have hi1 : (k : Int) < (n : Int) := by omega
      have hi0 : (0 : Int) ≤ (k : Int) := by omega
      have hwk : IntKind.i64.wrap ((k : Int) - 1) = (k : Int) - 1 := by rw [IntKind.wrap_i64]; have := HN.out; omega
      obtain ⟨bb, off, A, m, cm, x, hbe, hx, d0, d1, d2, hs1, hmc, hi64, hg64⟩ := hh.at_ hkn
      subst hbe
      have hp := HPOS.out x (List.mem_of_getElem? hx)
      obtain ⟨at_, gone, new⟩ := x
      dsimp only at d0 d1 d2 hs1 hp
      obtain ⟨a', rfl⟩ : ∃ a' : Nat, at_ = (a' : Int) := ⟨at_.toNat, by omega⟩
      obtain ⟨g', rfl⟩ : ∃ g' : Nat, gone = (g' : Int) := ⟨gone.toNat, by omega⟩
      have d0 := cell_keep hb d0
      have d1 := cell_keep hb d1
      have d2 := cell_keep hb d2
      obtain ⟨X, HXI, hXe⟩ : ∃ X : Bk hs w0, Hid (X.i = k) ∧ encB X = #[.int .i64 k, .agg #[.int .i64 a', .int .i64 g', .slice A m cm]] := ⟨⟨k, a', g', new, A, m, cm, hx, hs1, hmc⟩, Lib.hid rfl, rfl⟩
      obtain ⟨fn, tmps, assign, body, hy, hR⟩ := hY pre X _ hJp (by have := HL.out; omega)
      rw [hXe] at hy
      have HPS := Lib.hid (down_step HP.out)
      clear hx hj0 hp hXe hY
      gi_wp2
      refine hR.mono ?_
      clear hR hy
      rintro e W3 (⟨rfl, hJ3, hk3⟩ | ⟨rfl, hJx3⟩)
      · have hc3 := hk3.1 _ hc
        have HB3 := Lib.hid (hb.trans hk3.2)
        gi_wp2
        go_roundw
        case rel => exact ⟨_, k, rfl, Lib.hid (show (pre ++ [X]).map (·.i) ++ (List.range k).reverse = (List.range n).reverse by rw [List.map_append, List.map_singleton, HXI.out]; exact HPS.out), hc3, HB3.out, hJ3⟩
        case measure => simp [intOf]
      · gi_wp2
        refine bodyPost_ret (results_none rfl _ _ _) rfl ?_
        exact ⟨⟨_, rfl⟩, .inr ⟨_, trivial, hJx3⟩⟩

set_option maxHeartbeats 1000000 in
theorem backward_in (F : Fence) (d : Nat) (h5 : F.fn 76) (hro : F.round = none) (b0 : Option Addr) (n c : Nat) (w : World) :
    CallsIn F d Tryz.prog 76 #[.slice b0 n c] w fun e w' => e = .returned (.func (.func 138) #[] #[.pointer (some ⟨w.heap.size, 0, none⟩)]) ∧ w' = w.alloc (.cells #[.slice b0 n c] 34) := by
  refine callsIn_of_wp Tryz.func76 rfl h5 ?_ hro
  simp only [Tryz.ntmps76, List.size_toArray, List.length_cons, List.length_nil, Nat.reduceAdd, Nat.reduceSub, Array.replicate_succ, Array.replicate_zero, List.push_toArray, List.append_toArray, List.nil_append, List.cons_append]
  gi_wp2
  go_ret
  exact ⟨rfl, rfl⟩

theorem back_stops (F : Fence) (d : Nat) (h6 : F.fn 138) (hro : F.round = none) (hd : 1 ≤ d) (Bs : Nat) (b0 : Option Addr) (n c : Nat) (hs : List Hk) (w0 w : World) (hh : Hks w0 b0 n hs) (hn : n ≤ 1048576) (hpos : ∀ x ∈ hs, 0 ≤ x.at_ ∧ 0 ≤ x.gone)
    (hB : Bs < w.heap.size) (hc : w.cell? ⟨Bs, 0, none⟩ = some (.slice b0 n c)) (hw : Below w0.heap.size w0 w) :
    SeqStopsK F d Tryz.prog 138 #[.pointer (some ⟨Bs, 0, none⟩)] (fun x : Bk hs w0 => encB x) (KpB Bs w0.heap.size) (fun ys => ys.map (·.i) = (List.range n).reverse) (fun _ => True) (n + 1) w := fun l J Jx W hW hJ hJx hY h0 =>
  back1_in F d h6 hro hd l Bs b0 n c hs w0 hh hn hpos J Jx W hY ((hW.cell (p := ⟨Bs, 0, none⟩) hB).trans hc) (hw.trans (hW.mono hw.size)) h0

mutual
/-- Its blocks are cells. -/
theorem D.own_cells {w : World} {base : Nat} : ∀ {d : D} {g : Nat}, d.own w base → g ∈ d.blocks → ∃ o : Obj, w.heap[g]? = some o ∧ o.isCells = true
  | .lit v, g, _, hg => by simp [D.blocks] at hg
  | .sl v t sz n cs, g, h, hg => by
    rw [D.blocks] at hg
    rcases List.mem_append.1 hg with e | e
    · rcases h.1.2 with ⟨hv, _⟩ | ⟨g', cap, cur, hv, _, hc, _⟩
      · rw [hv] at e; simp [Value.ownBlock] at e
      · rw [hv] at e
        have e2 : g = g' := by simpa [Value.ownBlock] using e
        subst e2
        exact ⟨_, hc, rfl⟩
    · exact D.ownL_cells h.2 e
theorem D.ownL_cells {w : World} {base : Nat} : ∀ {cs : List D} {g : Nat}, D.ownL w base cs → g ∈ D.blocksL cs → ∃ o : Obj, w.heap[g]? = some o ∧ o.isCells = true
  | [], g, _, hg => by simp [D.blocksL] at hg
  | d :: r, g, h, hg => by
    rw [D.blocksL] at hg
    rcases List.mem_append.1 hg with e | e
    · exact D.own_cells h.1 e
    · exact D.ownL_cells h.2 e
end

theorem boxed_farO {W W' : World} {row : Option Nat} {B b : Nat} {t : TypeId} {v : Value} (h : Boxed W b t v) (hg : W.grownBy W' row) (hr : ∀ r, row = some r → B ≤ r ∧ ∃ o : Obj, W.heap[r]? = some o ∧ o.isCells = false) : Boxed W' b t v := by
  refine h.kept hg (fun e => ?_)
  obtain ⟨_, o, ho, hc⟩ := hr b e.symm
  have h2 : W.heap[b]? = some (.cells #[v] t (0, 0)) := h
  rw [h2] at ho
  cases ho
  cases hc
theorem ownOd_far {W W' : World} {row : Option Nat} {B base : Nat} {v : Value} {p : List Od} {rows : List (List D)} (h : OwnOd W base v p rows) (hg : W.grownBy W' row) (hr : ∀ r, row = some r → B ≤ r ∧ ∃ o : Obj, W.heap[r]? = some o ∧ o.isCells = false) : OwnOd W' base v p rows := by
  refine h.wrote (Wrote.of_grown hg (fun _ e => e)) (fun g hb e => ?_)
  obtain ⟨_, o, ho, hc⟩ := hr g e
  obtain ⟨o', ho', hc'⟩ := D.own_cells h.own.own.own hb
  rw [ho'] at ho
  cases ho
  rw [hc'] at hc
  cases hc

/-- The orders of the hunks that have been handed on. -/
def edPre {hs : List Hk} {w : World} (pre : List (Bk hs w)) : List Od := pre.flatMap fun x => edOne ⟨x.a, x.g, x.new⟩
theorem edPre_all {hs : List Hk} {w : World} {n : Nat} (hn : hs.length = n) {ys : List (Bk hs w)} (h : ys.map (·.i) = (List.range n).reverse) : edPre ys = edO hs := by
  have h1 := edAt_all hs n (by omega)
  rw [List.take_of_length_le (by omega)] at h1
  rw [← h1, ← h, List.flatMap_map]
  unfold edPre
  congr 1
  funext x
  exact (edAt_some x.hx).symm

/-- Between two rounds: the orders so far lie in their box. -/
def LB (hs : List Hk) (w : World) (pre : List (Bk hs w)) (W : World) : Prop :=
  ∃ v rows, Boxed W w.heap.size 24 v ∧ OwnOd W (w.heap.size + 2) v (edPre pre) rows ∧ w.heap.size + 2 ≤ W.heap.size ∧ (edPre pre).length ≤ pre.length * 41 ∧ Below w.heap.size w W
theorem LB.own {hs : List Hk} {B : Nat} {w : World} (hN : w.heap.size ≤ B) : OwnFrom B (LB hs w) := by
  rintro pre W W' row ⟨v, rows, h1, h2, hsz, h3, h7⟩ hg hr
  exact ⟨v, rows, boxed_farO h1 hg hr, ownOd_far h2 hg hr, Nat.le_trans hsz hg.size, h3, h7.grown hg h7.size (fun k e => Nat.le_trans hN (hr k e).1)⟩

set_option maxRecDepth 100000 in
set_option maxHeartbeats 2000000 in
theorem implEdOrders_any (a : Option Addr) (nl cl : Nat) (l : List ByteArray) (b0 : Option Addr) (n c : Nat) (hs : List Hk) (w : World) (hl : Strs w a nl l) (hcl : nl ≤ cl) (hh : Hks w b0 n hs) (hnl : nl ≤ 1048576) :
    Calls Tryz.prog 20 #[.slice a nl cl, .slice b0 n c] w fun e w' => ∃ v rows, e = .returned (.tuple #[v, .bool (edOrders l hs).2]) ∧ OwnOd w' w.heap.size v (edOrders l hs).1 rows ∧ Below w.heap.size w w' := by
  obtain ⟨P, ok, HP⟩ : ∃ P ok, Hid (patchOf l hs = (P, ok)) := ⟨_, _, rfl⟩
  obtain ⟨q, HQ⟩ : ∃ q, Hid (P.length = q) := ⟨_, rfl⟩
  have HN := Lib.hid hh.len
  have f1 : Fence.wide.fn 25 := trivial
  have f2 : Fence.wide.fn 75 := trivial
  have f3 : Fence.wide.fn 76 := trivial
  have f4 : Fence.wide.fn 77 := trivial
  refine (callsIn_wide (n := 9)).1 ?_
  refine callsIn_of_wp_marks Tryz.func20 rfl trivial ?_ rfl
  simp only [Tryz.ntmps20, List.size_toArray, List.length_cons, List.length_nil, Nat.reduceAdd, Nat.reduceSub, Array.replicate_succ, Array.replicate_zero, List.push_toArray, List.append_toArray, List.nil_append, List.cons_append]
  cases ok
  · have HF := Lib.hid (show edOrders l hs = ([], false) from edOrders_no (by rw [HP.out]; simp))
    gi_wp2_with fail
    refine (callsIn_wide.2 (implPatch_any a nl cl l b0 n c hs _ hl hcl hh hnl)).mono ?_
    rintro e w1 ⟨v1, rfl, o1, b1⟩
    rw [HP.out] at o1 ⊢
    dsimp only at o1 ⊢
    obtain ⟨A1, c1, rfl, h11, h12⟩ := o1.form HQ.out
    have HS1 := Lib.hid o1.strs
    clear o1
    gi_wp2
    refine ⟨.tuple #[.slice none 0 0, .bool false], by simp [results, Tryz.results20, go_sem], _, [], by rw [HF.out], by rw [HF.out]; exact OwnOd.nil_, b1⟩
  · have HGS := Lib.hid (patch_goods (l := l) (hs := hs) (by rw [HP.out]))
    have HG1 := Lib.hid HGS.out.1
    have HG2 := Lib.hid (show goodB P = true by have := HGS.out.2.1; rw [HP.out] at this; exact this)
    obtain ⟨t1, HT1⟩ : ∃ t, Hid ((goodB l && wholeB l) = t) := ⟨_, rfl⟩
    obtain ⟨t2, HT2⟩ : ∃ t, Hid ((goodB P && wholeB P) = t) := ⟨_, rfl⟩
    cases t1
    · have HF := Lib.hid (show edOrders l hs = ([], false) from edOrders_no (by rw [HP.out]; have := HT1.out; rw [HG1.out, Bool.true_and] at this; rw [this]; simp))
      gi_wp2_with fail
      refine (callsIn_wide.2 (implPatch_any a nl cl l b0 n c hs _ hl hcl hh hnl)).mono ?_
      rintro e w1 ⟨v1, rfl, o1, b1⟩
      rw [HP.out] at o1 ⊢
      dsimp only at o1 ⊢
      obtain ⟨A1, c1, rfl, h11, h12⟩ := o1.form HQ.out
      have HS1 := Lib.hid o1.strs
      clear o1
      gi_wp2_with fail
      refine (callsIn_wide.2 (areWhole_any a nl cl l _ (hl.below b1))).mono ?_
      rintro e w2 ⟨rfl, b2⟩
      rw [HT1.out]
      gi_wp2
      refine ⟨.tuple #[.slice none 0 0, .bool false], by simp [results, Tryz.results20, go_sem], _, [], by rw [HF.out], by rw [HF.out]; exact OwnOd.nil_, b1.next b2⟩
    · cases t2
      · have HF := Lib.hid (show edOrders l hs = ([], false) from edOrders_no (by rw [HP.out]; have := HT2.out; rw [HG2.out, Bool.true_and] at this; rw [this]; simp))
        gi_wp2_with fail
        refine (callsIn_wide.2 (implPatch_any a nl cl l b0 n c hs _ hl hcl hh hnl)).mono ?_
        rintro e w1 ⟨v1, rfl, o1, b1⟩
        rw [HP.out] at o1 ⊢
        dsimp only at o1 ⊢
        obtain ⟨A1, c1, rfl, h11, h12⟩ := o1.form HQ.out
        have HS1 := Lib.hid o1.strs
        clear o1
        gi_wp2_with fail
        refine (callsIn_wide.2 (areWhole_any a nl cl l _ (hl.below b1))).mono ?_
        rintro e w2 ⟨rfl, b2⟩
        rw [HT1.out]
        gi_wp2_with fail
        refine (callsIn_wide.2 (areWhole_any A1 q c1 P _ (HS1.out.below b2))).mono ?_
        rintro e w3 ⟨rfl, b3⟩
        rw [HT2.out]
        gi_wp2
        refine ⟨.tuple #[.slice none 0 0, .bool false], by simp [results, Tryz.results20, go_sem], _, [], by rw [HF.out], by rw [HF.out]; exact OwnOd.nil_, (b1.next b2).next b3⟩
      · gi_wp2_with fail
        refine (callsIn_wide.2 (implPatch_any a nl cl l b0 n c hs _ hl hcl hh hnl)).mono ?_
        rintro e w1 ⟨v1, rfl, o1, b1⟩
        rw [HP.out] at o1 ⊢
        dsimp only at o1 ⊢
        obtain ⟨A1, c1, rfl, h11, h12⟩ := o1.form HQ.out
        have HS1 := Lib.hid o1.strs
        clear o1
        gi_wp2_with fail
        refine (callsIn_wide.2 (areWhole_any a nl cl l _ (hl.below b1))).mono ?_
        rintro e w2 ⟨rfl, b2⟩
        rw [HT1.out]
        gi_wp2_with fail
        refine (callsIn_wide.2 (areWhole_any A1 q c1 P _ (HS1.out.below b2))).mono ?_
        rintro e w3 ⟨rfl, b3⟩
        rw [HT2.out]
        gi_wp2_with fail
        refine (backward_in Fence.wide _ trivial rfl _ _ _ _).mono ?_
        rintro e w4 ⟨rfl, rfl⟩
        have HED := Lib.hid (show edOrders l hs = (edO hs, true) from edOrders_yes (by rw [HP.out]) (by have := HT1.out; rwa [HG1.out, Bool.true_and] at this) (by rw [HP.out]; have := HT2.out; rwa [HG2.out, Bool.true_and] at this))
        have HG := Lib.hid HGS.out.2.2
        have hn20 : n ≤ 20 := by rw [← HN.out]; exact (goodH_parts HG.out).2.2.1
        have HOK := Lib.hid (show ∀ x ∈ hs, 0 ≤ x.at_ ∧ 0 ≤ x.gone ∧ x.at_ + x.gone ≤ 40 ∧ x.new.length ≤ 40 ∧ ¬ (x.gone = 0 ∧ x.new.length = 0) from fun x hx => by
          obtain ⟨h1, h2, h3, h4, h5⟩ := goodH_mem HG.out hx
          exact ⟨h1, h2, by omega, h5, fun h => by have h6 := (hunkB_parts (rise_mem (goodH_parts HG.out).2.2.2 hx)).2.2.2.1; unfold nothing at h6; simp at h6; exact h6 h.1 (List.eq_nil_of_length_eq_zero h.2)⟩)
        have HB3 := Lib.hid ((b1.next b2).next b3)
        have hh3 := hh.below HB3.out
        clear b1 b2 b3
        have b0x := (Boxed.new w3 24 (.slice none 0 0)).alloc (.cells #[.slice b0 n c] 34)
        have b1x := Boxed.new (w3.alloc (.cells #[.slice none 0 0] 24)) 34 (.slice b0 n c)
        have hB0 : Below w3.heap.size w3 ((w3.alloc (.cells #[.slice none 0 0] 24)).alloc (.cells #[.slice b0 n c] 34)) := ((Below.refl _ w3).alloc (Nat.le_refl _) _).alloc (by simp) _
        simp only [World.size_alloc] at b1x
        gi_wp2
        refine wpIn_rangeFunc_ownH rfl (by omega) (gf := 138) (lb := #[.pointer (some ⟨w3.heap.size + 1, 0, none⟩)]) rfl trivial (enters_of Tryz.func138 (by kernel_rfl) rfl)
          (back_stops Fence.wide _ trivial rfl (by omega) (w3.heap.size + 1) b0 n c hs w3 _ hh3 (by omega) (fun x hx => ⟨(HOK.out x hx).1, (HOK.out x hx).2.1⟩) (by simp) b1x.cell hB0) KpB.t (KpB.b (by simp; omega)) (Below.refl _ _) (fun _ => rfl)
          (LB hs w3) (fun _ _ _ => False) (LB.own (by simp; omega)) (fun _ _ _ _ _ h _ _ => h)
          ⟨_, [], b0x, OwnOd.nil_, by simp, by simp [edPre], hB0⟩
          (fun x a' W => ∃ kb, a' = { tmps := #[.slice a nl cl, .slice b0 n c, undef, undef, .slice none 0 0, .bool false, .slice A1 q c1, .bool true, .pointer (some ⟨w3.heap.size, 0, none⟩), undef, .pointer (some ⟨kb, 0, none⟩), .tuple #[.slice A1 q c1, .bool true], .slice a nl cl, .slice b0 n c, .tuple #[.slice A1 q c1, .bool true], .slice A1 q c1, .bool true, .bool true, .bool false, .bool false, .slice a nl cl, .bool true, .bool false, .bool false, .bool false, .slice A1 q c1, .bool true, .bool false, .bool false, .slice b0 n c, .func (.func 138) #[] #[.pointer (some ⟨w3.heap.size + 1, 0, none⟩)], .int .i64 x.i, .agg #[.int .i64 x.a, .int .i64 x.g, .slice x.A x.m x.c], undef, undef, undef, undef], defers := [] } ∧ w3.heap.size + 2 ≤ kb ∧ W.heap[kb]? = some (.cells #[.int .i64 x.a, .int .i64 x.g, .slice x.A x.m x.c] 105 (0, 0)))
          (fun x a' _ W W' row h hg hr => by
            obtain ⟨kb, h1, h2, h3⟩ := h
            refine ⟨kb, h1, h2, (hg.block kb (Array.getElem?_eq_some_iff.1 h3).1 (fun e => ?_)).trans h3⟩
            obtain ⟨_, o, ho, hc⟩ := hr kb e.symm
            rw [h3] at ho
            cases ho
            cases hc) ?assign ?body ?done ?stop
        case assign =>
          intro l pre x W K hI hK
          simp only [encB]
          gi_wp2
          have hsz : w3.heap.size + 2 ≤ W.heap.size := by obtain ⟨_, _, _, _, h, _⟩ := hI; exact h
          exact hK _ _ ((KeepsOthers.alloc W _).from _) ⟨fun v hv => cell_keep (below_alloc W _) hv, (Below.refl _ W).alloc (by omega) _⟩ ((LB.own (by simp; omega) : OwnFrom ((w3.alloc (.cells #[.slice none 0 0] 24)).alloc (.cells #[.slice b0 n c] 34)).heap.size (LB hs w3)).alloc _ hI) ⟨W.heap.size, rfl, hsz, heap_alloc_new W _⟩
        case body =>
          rintro l pre x _ W hll hlr ⟨v, rows, hv, hown, hsz, hlen, hB⟩ ⟨kb, rfl, hkb, hkc⟩ hlt
          have hd : 1 ≤ 9 - 1 - 1 := by omega
          have hmx : Tryz.prog.follows .mixedOrders = true := by kernel_rfl
          have hc := hv.cell
          refine wpIn_block ?_
          refine wpIn_region_any (by assumption) ?_
          try (change wpAnyIn _ _ _ _ _ _ _ _ _ (World.drew _))
          have hxm : (⟨(x.a : Int), (x.g : Int), x.new⟩ : Hk) ∈ hs := List.mem_of_getElem? x.hx
          have HOKX := Lib.hid (HOK.out _ hxm)
          dsimp only at HOKX
          have HLM := Lib.hid x.hs1.len
          have hs5 : ∀ {W' : World}, Below w3.heap.size w3 W' → Strs W' x.A x.m x.new := fun h => x.hs1.below h
          have hag : x.a + x.g ≤ 40 := by have := HOKX.out; omega
          have hm40 : x.m ≤ 40 := by have := HOKX.out; have := HLM.out; omega
          have hne : ¬ (x.g = 0 ∧ x.m = 0) := fun h => HOKX.out.2.2.2.2 ⟨by omega, by have := HLM.out; omega⟩
          obtain ⟨k5, HK5⟩ : ∃ k5, Hid ((edOne ⟨(x.a : Int), (x.g : Int), x.new⟩).length = k5) := ⟨_, rfl⟩
          have hk5 : Hid (1 ≤ k5 ∧ k5 ≤ 41) := by
            have h1 := edOne_len ⟨(x.a : Int), (x.g : Int), x.new⟩
            dsimp only at h1
            rw [HK5.out] at h1
            have h2 : 1 ≤ k5 := by rw [← HK5.out]; unfold edOne; simp
            exact show 1 ≤ k5 ∧ k5 ≤ 41 from ⟨h2, by have := HLM.out; omega⟩
          have HPL := Lib.hid (show (edPre (pre ++ [x])) = edPre pre ++ edOne ⟨(x.a : Int), (x.g : Int), x.new⟩ by unfold edPre; simp)
          have c0 : W.cell? ⟨kb, 0, none⟩ = some (.int .i64 (x.a : Int)) := by simp [World.cell?, hkc]
          have c1' : W.cell? ⟨kb, 0 + 1, none⟩ = some (.int .i64 (x.g : Int)) := by simp [World.cell?, hkc]
          have c2' : W.cell? ⟨kb, 0 + 2, none⟩ = some (.slice x.A x.m x.c) := by simp [World.cell?, hkc]
          refine wpAnyIn_ready (rs := [0, 1]) (by kernel_rfl) (by simp) ?_
          have hpl : pre.length ≤ 20 := by omega
          have hpn : (edPre pre).length ≤ 820 := by omega
          refine AllReadyIn.cons rfl (fun K hK => ?_) (AllReadyIn.cons rfl (fun K hK => ?_) AllReadyIn.nil)
          · go_simp
            refine hK _ _ ?_
            clear hK K
            refine wpAnyIn_ready (rs := [1]) (by kernel_rfl) (by simp) ?_
            refine AllReadyIn.cons rfl (fun K hK => ?_) AllReadyIn.nil
            go_simp
            gi_wp2_with fail
            refine (CallsIn.inRound l (callsIn_wide.2 (ordersFor_any kb 0 x.a x.g x.new x.A x.m x.c _ (by exact c0) (by exact c1') (by exact c2') (by exact hs5 hB.drew) hag hm40 hne))).mono ?_
            rintro e w5 ⟨v5, rows5, rfl, o5, b5⟩
            obtain ⟨A5, k5', rfl, _, _⟩ := o5.form HK5.out
            obtain ⟨g5, _, _, _, _, rfl, _, _, _, _, _, _, _, _, _, _, _, _⟩ := o5.at_ (show 0 < k5 by have := hk5.out; omega)
            have hD5 : Below W.heap.size W w5 := (Below.refl _ W).drew.trans b5
            gi_wp2
            refine wpAnyIn_ready (rs := [2]) (by kernel_rfl) (by simp) ?_
            refine AllReadyIn.cons rfl (fun K hK => ?_) AllReadyIn.nil
            refine stepIn_app_ods (.tmp 33) (.tmp 34) (w3.heap.size + 2) W.heap.size v (edPre pre) rows (hown.below hD5) g5 k5 k5' _ rows5 o5 (fun k hk => (hown.lt hk).2) hsz (by have := hk5.out; omega) (Nat.le_trans hsz hD5.size) (by kernel_rfl) rfl rfl rfl ?_
            intro v6 w6 o6 g6 p6
            obtain ⟨k6, HK6⟩ : ∃ k6, Hid ((edPre pre ++ edOne ⟨(x.a : Int), (x.g : Int), x.new⟩).length = k6) := ⟨_, rfl⟩
            obtain ⟨A6, c6, rfl, _, _⟩ := o6.form HK6.out
            have hv6 : Boxed w6 w3.heap.size 24 v := by
              refine Boxed.kept (show Boxed w5 w3.heap.size 24 v from (hD5.block _ (by omega)).trans hv) g6 (fun e => ?_)
              have := ((hown.below hD5).lt (blk_ownE e.symm)).1
              omega
            have hc6 := hv6.cell
            have hf6 := hv6.frozen
            refine hK _ _ ?_
            clear hK K
            refine wpAnyIn_ready (rs := [3]) (by kernel_rfl) (by simp) ?_
            refine AllReadyIn.cons rfl (fun K hK => ?_) AllReadyIn.nil
            go_simp
            refine hK _ _ ?_
            clear hK K
            refine wpAnyIn_done (by kernel_rfl) ?_ _
            have hcell5 : ∀ j, (Value.ownBlock v) = some j → w3.heap.size + 2 ≤ j := fun j e => (hown.lt (blk_ownE e)).1
            have hKO : KeepsOthers W (w6.setCell ⟨w3.heap.size, 0, none⟩ (.slice A6 k6 c6)) := by
              refine KeepsOthers.trans (⟨hD5.size, fun k o hk _ => (hD5.block k (Array.getElem?_eq_some_iff.1 hk).1).trans hk⟩ : KeepsOthers W w5) (KeepsOthers.trans (KeepsOthers.of_grownBy g6 (fun j o hj ho => ?_)) (KeepsOthers.setCell _ _ _))
              obtain ⟨o', ho', hc'⟩ := D.own_cells (hown.below hD5).own.own.own (show j ∈ _ from blk_ownE hj)
              rw [ho'] at ho
              cases ho
              exact hc'
            have hB6 : Below w3.heap.size W w6 := Below.grown (hD5.mono (by omega)) g6 (by have := hD5.size; omega) (fun k e => by have := hcell5 k e; omega)
            refine ⟨hKO.from _, ⟨fun u hu => ?_, hB6.setCell (by simp) _⟩, _, rows ++ rows5, hv6.set _, ?_, Nat.le_trans hsz hKO.size, ?_, (hB.trans hB6).setCell (by simp) _⟩
            · have e1 : w5.cell? ⟨w3.heap.size + 1, 0, none⟩ = some u := cell_keep hD5 hu
              have e2 : w6.cell? ⟨w3.heap.size + 1, 0, none⟩ = some u := g6.cell e1 (fun e => by have := hcell5 _ e.symm; simp at this)
              exact (World.cell?_setCell_other w6 _ _ _ (fun e => by injection e with e _ _; omega)).trans e2
            · rw [HPL.out]
              exact o6.wrote (Wrote.set (fun i => i = w3.heap.size) w6 _ _ rfl) (fun g e e2 => by have := (o6.lt e).1; omega)
            · rw [HPL.out, List.length_append, List.length_append, List.length_singleton, HK5.out]
              have := hk5.out
              omega
          · go_simp
            gi_wp2_with fail
            refine (CallsIn.inRound l (callsIn_wide.2 (ordersFor_any kb 0 x.a x.g x.new x.A x.m x.c _ (by exact c0) (by exact c1') (by exact c2') (by exact hs5 hB.drew) hag hm40 hne))).mono ?_
            rintro e w5 ⟨v5, rows5, rfl, o5, b5⟩
            obtain ⟨A5, k5', rfl, _, _⟩ := o5.form HK5.out
            obtain ⟨g5, _, _, _, _, rfl, _, _, _, _, _, _, _, _, _, _, _, _⟩ := o5.at_ (show 0 < k5 by have := hk5.out; omega)
            have hD5 : Below W.heap.size W w5 := (Below.refl _ W).drew.trans b5
            have hc5 : w5.cell? ⟨w3.heap.size, 0, none⟩ = some v := cell_keep hD5 hc
            gi_wp2
            refine wpAnyIn_ready (rs := [0]) (by kernel_rfl) (by simp) ?_
            refine AllReadyIn.cons rfl (fun K hK => ?_) AllReadyIn.nil
            go_simp
            refine hK _ _ ?_
            clear hK K
            refine wpAnyIn_ready (rs := [2]) (by kernel_rfl) (by simp) ?_
            refine AllReadyIn.cons rfl (fun K hK => ?_) AllReadyIn.nil
            refine stepIn_app_ods (.tmp 33) (.tmp 34) (w3.heap.size + 2) W.heap.size v (edPre pre) rows (hown.below hD5) g5 k5 k5' _ rows5 o5 (fun k hk => (hown.lt hk).2) hsz (by have := hk5.out; omega) (Nat.le_trans hsz hD5.size) (by kernel_rfl) rfl rfl rfl ?_
            intro v6 w6 o6 g6 p6
            obtain ⟨k6, HK6⟩ : ∃ k6, Hid ((edPre pre ++ edOne ⟨(x.a : Int), (x.g : Int), x.new⟩).length = k6) := ⟨_, rfl⟩
            obtain ⟨A6, c6, rfl, _, _⟩ := o6.form HK6.out
            have hv6 : Boxed w6 w3.heap.size 24 v := by
              refine Boxed.kept (show Boxed w5 w3.heap.size 24 v from (hD5.block _ (by omega)).trans hv) g6 (fun e => ?_)
              have := ((hown.below hD5).lt (blk_ownE e.symm)).1
              omega
            have hc6 := hv6.cell
            have hf6 := hv6.frozen
            refine hK _ _ ?_
            clear hK K
            refine wpAnyIn_ready (rs := [3]) (by kernel_rfl) (by simp) ?_
            refine AllReadyIn.cons rfl (fun K hK => ?_) AllReadyIn.nil
            go_simp
            refine hK _ _ ?_
            clear hK K
            refine wpAnyIn_done (by kernel_rfl) ?_ _
            have hcell5 : ∀ j, (Value.ownBlock v) = some j → w3.heap.size + 2 ≤ j := fun j e => (hown.lt (blk_ownE e)).1
            have hKO : KeepsOthers W (w6.setCell ⟨w3.heap.size, 0, none⟩ (.slice A6 k6 c6)) := by
              refine KeepsOthers.trans (⟨hD5.size, fun k o hk _ => (hD5.block k (Array.getElem?_eq_some_iff.1 hk).1).trans hk⟩ : KeepsOthers W w5) (KeepsOthers.trans (KeepsOthers.of_grownBy g6 (fun j o hj ho => ?_)) (KeepsOthers.setCell _ _ _))
              obtain ⟨o', ho', hc'⟩ := D.own_cells (hown.below hD5).own.own.own (show j ∈ _ from blk_ownE hj)
              rw [ho'] at ho
              cases ho
              exact hc'
            have hB6 : Below w3.heap.size W w6 := Below.grown (hD5.mono (by omega)) g6 (by have := hD5.size; omega) (fun k e => by have := hcell5 k e; omega)
            refine ⟨hKO.from _, ⟨fun u hu => ?_, hB6.setCell (by simp) _⟩, _, rows ++ rows5, hv6.set _, ?_, Nat.le_trans hsz hKO.size, ?_, (hB.trans hB6).setCell (by simp) _⟩
            · have e1 : w5.cell? ⟨w3.heap.size + 1, 0, none⟩ = some u := cell_keep hD5 hu
              have e2 : w6.cell? ⟨w3.heap.size + 1, 0, none⟩ = some u := g6.cell e1 (fun e => by have := hcell5 _ e.symm; simp at this)
              exact (World.cell?_setCell_other w6 _ _ _ (fun e => by injection e with e _ _; omega)).trans e2
            · rw [HPL.out]
              exact o6.wrote (Wrote.set (fun i => i = w3.heap.size) w6 _ _ rfl) (fun g e e2 => by have := (o6.lt e).1; omega)
            · rw [HPL.out, List.length_append, List.length_append, List.length_singleton, HK5.out]
              have := hk5.out
              omega
        case done =>
          rintro D ys W hD hS ⟨v, rows, hv, hown, hsz, hlen, hB⟩ hK
          have hc := hv.cell
          have HE := Lib.hid (edPre_all HN.out hS)
          rw [HE.out] at hown
          obtain ⟨A6, c6, rfl, _, _⟩ := hown.form (n := _) rfl
          obtain ⟨k6, HK6⟩ : ∃ k6, k6 = (edO hs).length := ⟨_, rfl⟩
          rw [← HK6] at hc hv hown
          clear hS HK6
          gi_wp2
          have hfar : ∀ r, some D = some r → w3.heap.size + 2 ≤ r ∧ ∃ o : Obj, W.heap[r]? = some o ∧ o.isCells = false := fun r e => by cases e; exact ⟨by simp at hD; omega, _, hK, rfl⟩
          have hg := grownBy_putObj' W D (.deferred none)
          have hy := ownOd_far hown hg hfar
          have hBD := hB.grown hg hB.size (fun k e => by have := (hfar k e).1; omega)
          have hB3 := HB3.out.size
          refine ⟨by simp, .inl ⟨_, _, rfl, run_takeDeferred hK, ?_⟩⟩
          exact ⟨.tuple #[.slice A6 k6 c6, .bool true], by simp [results, Tryz.results20, go_sem], _, rows, by rw [HED.out], by rw [HED.out]; exact hy.more (by omega), HB3.out.next hBD⟩
        case stop =>
          rintro D c pre W hD hS h hK
          exact h.elim

end Go.Proofs.YtnnaigoomipklaaGreatDoor
