/-
  Rows and groups are appended: the program's addRows, the model's l6Rows.
  The rows of hunks: the program's rowsOf, howManyNear.
  How many hunks are near one another: the program's howManyNear.
  GroupsOf, the program's.
-/
import Derived.Test.YtkamenidgkjodaaGreatDoorQaGSpans
import Derived.Test.YtkamenidgkjodaaGreatDoorQaUSame
import Derived.Test.YtkamenidgkjodaaGreatDoorQaHPatch
import Derived.Test.YtkamenidgkjodaaGreatDoorQaHApp
import Derived.BigQuiet
import Derived.Test.YtkamenidgkjodaaGreatDoorQaGTake
import Derived.Test.YtkamenidgkjodaaGreatDoorQaHMems
import Derived.Test.YtkamenidgkjodaaGreatDoorQaHGoods
set_option linter.unusedSimpArgs false
set_option linter.unusedVariables false
namespace Go.Proofs.YtkamenidgkjodaaGreatDoor
open Go.RowKit Go.ChangeShapes Go.WideShapes M

theorem OwnRw.snoc {w w' : World} {base : Nat} {v v' : Value} {l : List Rw} {x : Rw} (h : OwnRw w base v l) (hx : RwOk x) (ho : OwnR w' base v' 62 2 (l.map rwRow ++ [rwRow x])) : OwnRw w' base v' (l ++ [x]) := by
  refine ⟨by rw [List.map_append]; exact ho, fun y hy => ?_⟩
  rcases List.mem_append.1 hy with h5 | h5
  · exact h.ok y h5
  · simp at h5; rw [h5]; exact hx
theorem rwRow_cells {w : World} {gb : Nat} {x : Rw} (h0 : w.cell? ⟨gb, 0, none⟩ = some (.int .i64 x.kind)) (h1 : w.cell? ⟨gb, 1, none⟩ = some (.string x.line)) :
    ∀ j d, (rwRow x)[j]? = some d → w.cell? ((⟨gb, 0, none⟩ : Addr).add j) = some d.val := by
  intro j d hd
  match j, hd with
  | 0, hd => simp [rwRow] at hd; subst hd; simpa [Addr.add, D.val] using h0
  | 1, hd => simp [rwRow] at hd; subst hd; simpa [Addr.add, D.val] using h1
  | j + 2, hd => simp [rwRow] at hd
/-- One row is appended. -/
theorem wpList_rw {w : World} {ops : Array Oper} {rest : List Oper} {o : Oper} {a : Act} {Q : Exit → Act → World → Prop} (s y : Operand) (base : Nat) (v : Value) (l : List Rw) (hown : OwnRw w base v l) (x : Rw) (hx : RwOk x)
    (gb : Nat) (h0 : w.cell? ⟨gb, 0, none⟩ = some (.int .i64 x.kind)) (h1 : w.cell? ⟨gb, 1, none⟩ = some (.string x.line)) (hbound : l.length ≤ 1048576) (hbase : base ≤ w.heap.size)
    (hgd : Region.wanted o (yielded ops a.tmps) = true) (ho : o.op = .call { callee := .builtin .append, args := #[s, y], argTypes := #[58, 58] }) (hs : a.eval s = v) (hy : a.eval y = .slice (some ⟨gb, 0, none⟩) 1 1)
    (h : ∀ v' w', OwnRw w' base v' (l ++ [x]) → w.grownBy w' v.ownBlock → (v'.ownBlock = v.ownBlock ∨ v'.ownBlock = some w.heap.size) → wpList Tryz.prog ops Q rest (a.put o.dst v') w') : wpList Tryz.prog ops Q (o :: rest) a w := by
  obtain ⟨i, q1, q2, q3, q4⟩ := info_parts rw_info
  exact wpList_app_R Tryz.underlying58 q1 q2 q3 q4 (by simp [Value.cells]) (by omega) s y base v (l.map rwRow) hown.own (rwRow x) rfl ⟨rfl, rfl, trivial⟩ (by simp [rwRow, D.blocksL, D.blocks]) (fun g hg => by simp [rwRow, D.blocksL, D.blocks] at hg) ⟨gb, 0, none⟩ 1 (rwRow_cells h0 h1) (by rw [List.length_map]; exact hbound) (by omega) hbase hgd ho hs hy (fun v' w' o' => h v' w' (hown.snoc hx o'))

theorem gpRow_cells {w : World} {gb : Nat} {x : Gp} {u : Value} (h0 : w.cell? ⟨gb, 0, none⟩ = some (.int .i64 x.at_)) (h1 : w.cell? ⟨gb, 1, none⟩ = some (.int .i64 x.to_)) (h2 : w.cell? ⟨gb, 2, none⟩ = some u) :
    ∀ j d, (gpRow x u)[j]? = some d → w.cell? ((⟨gb, 0, none⟩ : Addr).add j) = some d.val := by
  intro j d hd
  match j, hd with
  | 0, hd => simp [gpRow] at hd; subst hd; simpa [Addr.add, D.val] using h0
  | 1, hd => simp [gpRow] at hd; subst hd; simpa [Addr.add, D.val] using h1
  | 2, hd => simp [gpRow] at hd; subst hd; simpa [Addr.add, D.val, rowsD] using h2
  | j + 3, hd => simp [gpRow] at hd
theorem gpRow_own {w : World} {base : Nat} {x : Gp} {u : Value} (hu : OwnRw w base u x.rows) : D.ownL w base (gpRow x u) ∧ (D.blocksL (gpRow x u)).Nodup := by
  refine ⟨⟨rfl, rfl, hu.datum.own, trivial⟩, ?_⟩
  simp only [gpRow, D.blocksL, D.blocks, rowsD_blocks, List.nil_append, List.append_nil]
  cases u.ownBlock <;> simp
theorem gpRow_blk {x : Gp} {u v : Value} {rows : List (List D)} (hf : ∀ g, u.ownBlock = some g → ¬ BlkR v rows g) : ∀ g ∈ D.blocksL (gpRow x u), ¬ BlkR v rows g := by
  intro g hg
  simp only [gpRow, D.blocksL, D.blocks, rowsD_blocks, List.nil_append, List.append_nil] at hg
  exact hf g (by simpa using hg)
/-- One group is appended. -/
theorem wpList_gp {w : World} {ops : Array Oper} {rest : List Oper} {o : Oper} {a : Act} {Q : Exit → Act → World → Prop} (s y : Operand) (base : Nat) (v : Value) (l : List Gp) (rows : List (List D)) (hown : OwnGp w base v l rows) (x : Gp) (hx : GpOk x) (u : Value) (hu : OwnRw w base u x.rows) (hf : ∀ g, u.ownBlock = some g → ¬ BlkR v rows g)
    (gb : Nat) (h0 : w.cell? ⟨gb, 0, none⟩ = some (.int .i64 x.at_)) (h1 : w.cell? ⟨gb, 1, none⟩ = some (.int .i64 x.to_)) (h2 : w.cell? ⟨gb, 2, none⟩ = some u) (hbound : l.length ≤ 1048576) (hbase : base ≤ w.heap.size)
    (hgd : Region.wanted o (yielded ops a.tmps) = true) (ho : o.op = .call { callee := .builtin .append, args := #[s, y], argTypes := #[24, 24] }) (hs : a.eval s = v) (hy : a.eval y = .slice (some ⟨gb, 0, none⟩) 1 1)
    (h : ∀ v' w', OwnGp w' base v' (l ++ [x]) (rows ++ [gpRow x u]) → w.grownBy w' v.ownBlock → (v'.ownBlock = v.ownBlock ∨ v'.ownBlock = some w.heap.size) → wpList Tryz.prog ops Q rest (a.put o.dst v') w') : wpList Tryz.prog ops Q (o :: rest) a w := by
  obtain ⟨i, q1, q2, q3, q4⟩ := info_parts gp_info
  obtain ⟨r1, r2⟩ := gpRow_own (x := x) hu
  exact wpList_app_R Tryz.underlying24 q1 q2 q3 q4 (by simp [Value.cells]) (by omega) s y base v rows hown.own (gpRow x u) rfl r1 r2 (gpRow_blk hf) ⟨gb, 0, none⟩ 1 (gpRow_cells h0 h1 h2) (by rw [hown.len]; exact hbound) (by omega) hbase hgd ho hs hy (fun v' w' o' => h v' w' (hown.snoc hx o'))

set_option maxHeartbeats 1000000 in
/-- l6Rows, the model's. -/
theorem l6Rows_any (k : Int) (A : Option Addr) (m c : Nat) (r : List ByteArray) (w : World) (hk : i64ok k) (hr : Strs w A m r) (hm : m ≤ 1048576) :
    Calls Tryz.prog 158 #[.int .i64 k, .slice A m c] w fun e w' => ∃ v, e = .returned v ∧ OwnRw w' w.heap.size v (kR k r) ∧ Below w.heap.size w w' := by
  have HL := Lib.hid hr.len
  go_enter Tryz.func158, Tryz.ntmps158
  go_wp2
  go_loopw [5, 10] (fun lv i w' => ∃ (v : Value) (j : Nat), v = lv ∧ i = .int .i64 j ∧ j ≤ m ∧ OwnRw w' w.heap.size v (kR k (r.take j)) ∧ Below w.heap.size w w') (fun _ i _ => m - (intOf i).toNat)
  case atStart => exact ⟨_, 0, rfl, rfl, by omega, OwnRw.nil_, Below.refl _ _⟩
  case round =>
    obtain ⟨v, j, rfl, rfl, hj, ho, hbl⟩ := hrel
    have hst := hr.below hbl
    by_cases hlt : j < m
    · obtain ⟨b, off, s, rfl, hs, hsz, hc⟩ := hst.at_ hlt
      have HS := Lib.hid (kR_snoc (k := k) hs)
      have hlen : (kR k (r.take j)).length ≤ 1048576 := by rw [kR_len, List.length_take]; omega
      have hz := hbl.size
      have hoA := ho.below (below_alloc wr (.cells #[.int .i64 k, .string s] 62))
      have hbk : ∀ b, v.ownBlock = some b → w.heap.size ≤ b := fun b e => (ho.lt e).1
      have hx : RwOk ⟨k, s⟩ := ⟨hk, hsz⟩
      clear hs hst
      go_wp2_with (at_builtin; refine wpList_rw (.tmp 14) (.tmp 18) w.heap.size v (kR k (r.take j)) hoA ⟨k, s⟩ hx wr.heap.size (by simp) (by simp) hlen (by simp; omega) rfl rfl rfl rfl ?_; intro v3 w3 o3 g3 p3)
      go_roundw
      case rel => exact ⟨v3, j + 1, rfl, by go_num, by omega, by rw [HS.out]; exact o3, Below.grown (hbl.alloc hz _) g3 (by simp; omega) (fun b e => hbk b e)⟩
      case measure => simp [intOf]; omega
    · have hf := Lib.hid (show r.take j = r from List.take_of_length_le (by rw [HL.out]; omega))
      go_wp2
      go_ret
      exact ⟨v, rfl, by rw [hf.out] at ho; exact ho, hbl⟩

end Go.Proofs.YtkamenidgkjodaaGreatDoor

namespace Go.Proofs.YtkamenidgkjodaaGreatDoor
open Go.RowKit Go.ChangeShapes Go.WideShapes M

/-- The address of a slice of hunks that is cut at its beginning. -/
def cutH (a : Option Addr) (c lo : Nat) : Option Addr := if c = lo then a else a.map (·.add (lo * 3))
theorem cut_lh_hks (a : Option Addr) (n c lo hi : Nat) (h1 : lo ≤ hi) (h2 : hi ≤ c) (w : World) :
    (Instr.slice 34 (.slice a n c) (some (.int .i64 (lo : Int))) (some (.int .i64 (hi : Int))) none).run Tryz.prog w = .ok (.slice (cutH a c lo) (hi - lo) (c - lo)) w := by
  obtain ⟨i, h3, h4, h5, h6⟩ := info_parts hk_info
  have he : Tryz.prog.elem 34 = 95 := by simp [Program.elem, Tryz.underlying34]
  have := run_slice_lh (P := Tryz.prog) w 34 a n c (by rw [he]; exact Tryz.underlying34) .i64 .i64 lo hi (by omega) (by omega) (by omega)
  rw [this, he]
  simp [sizeOf, typeInfo, h3, h5, sliced, cutH]
theorem Hks.cutG {w : World} {a : Option Addr} {n c lo hi : Nat} {l : List Hk} (h : Hks w a n l) (h1 : lo ≤ hi) (h2 : hi ≤ n) (h3 : n ≤ c) : Hks w (cutH a c lo) (hi - lo) ((l.drop lo).take (hi - lo)) := by
  refine ⟨by simp [h.len]; omega, by have := h.lim; omega, fun k s hs => ?_⟩
  rw [List.getElem?_take] at hs
  split at hs
  case isFalse => cases hs
  case isTrue hk =>
    rw [List.getElem?_drop] at hs
    obtain ⟨b, off, A, m, c', rfl, r0, r1, r2, r3⟩ := h.cell _ _ hs
    refine ⟨b, off + lo * 3, A, m, c', ?_, by rw [← r0]; congr 2; omega, by rw [← r1]; congr 2; omega, by rw [← r2]; congr 2; omega, r3⟩
    unfold cutH
    rw [if_neg (by omega)]
    unfold Addr.add
    by_cases h0 : lo * 3 = 0 <;> simp [h0]
theorem patch_two (l : List ByteArray) (hs : List Hk) : (patchOf l hs).2 = patchOk l hs := by
  unfold patchOf; split
  · rename_i h; rw [h]
  · rename_i h; simpa using h

end Go.Proofs.YtkamenidgkjodaaGreatDoor
