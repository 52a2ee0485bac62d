/-
  Rows and groups are appended: the program's addRows, the model's l6Rows.
  The rows of hunks: the program's rowsOf, howManyNear.
  How many hunks are near one another: the program's howManyNear.
-/
import Derived.Test.YtkamenidgkjodaaGreatDoorQbGSpans
import Derived.Test.YtkamenidgkjodaaGreatDoorQbGMem
import Derived.Test.YtkamenidgkjodaaGreatDoorQbHPlace
import Derived.Test.YtkamenidgkjodaaGreatDoorQbHGoods
import Derived.BigQuiet
import Derived.Test.YtkamenidgkjodaaGreatDoorQbGTake
import Derived.Test.YtkamenidgkjodaaGreatDoorQbHMems
set_option linter.unusedSimpArgs false
set_option linter.unusedVariables false
namespace Go.Proofs.YtkamenidgkjodaaGreatDoor
open Go.RowKit Go.ChangeShapes Go.WideShapes M

theorem OwnRw.snoc {w w' : World} {base : Nat} {v v' : Value} {l : List Rw} {x : Rw} (h : OwnRw w base v l) (hx : RwOk x) (ho : OwnR w' base v' 62 2 (l.map rwRow ++ [rwRow x])) : OwnRw w' base v' (l ++ [x]) := by
  refine ⟨by rw [List.map_append]; exact ho, fun y hy => ?_⟩
  rcases List.mem_append.1 hy with h5 | h5
  · exact h.ok y h5
  · simp at h5; rw [h5]; exact hx
theorem rwRow_cells {w : World} {gb : Nat} {x : Rw} (h0 : w.cell? ⟨gb, 0, none⟩ = some (.int .i64 x.kind)) (h1 : w.cell? ⟨gb, 1, none⟩ = some (.string x.line)) :
    ∀ j d, (rwRow x)[j]? = some d → w.cell? ((⟨gb, 0, none⟩ : Addr).add j) = some d.val := by
  intro j d hd
  match j, hd with
  | 0, hd => simp [rwRow] at hd; subst hd; simpa [Addr.add, D.val] using h0
  | 1, hd => simp [rwRow] at hd; subst hd; simpa [Addr.add, D.val] using h1
  | j + 2, hd => simp [rwRow] at hd
theorem wpList_rw {w : World} {ops : Array Oper} {rest : List Oper} {o : Oper} {a : Act} {Q : Exit → Act → World → Prop} (s y : Operand) (base : Nat) (v : Value) (l : List Rw) (hown : OwnRw w base v l) (x : Rw) (hx : RwOk x)
    (gb : Nat) (h0 : w.cell? ⟨gb, 0, none⟩ = some (.int .i64 x.kind)) (h1 : w.cell? ⟨gb, 1, none⟩ = some (.string x.line)) (hbound : l.length ≤ 1048576) (hbase : base ≤ w.heap.size)
    (hgd : Region.wanted o (yielded ops a.tmps) = true) (ho : o.op = .call { callee := .builtin .append, args := #[s, y], argTypes := #[58, 58] }) (hs : a.eval s = v) (hy : a.eval y = .slice (some ⟨gb, 0, none⟩) 1 1)
    (h : ∀ v' w', OwnRw w' base v' (l ++ [x]) → w.grownBy w' v.ownBlock → (v'.ownBlock = v.ownBlock ∨ v'.ownBlock = some w.heap.size) → wpList Tryz.prog ops Q rest (a.put o.dst v') w') : wpList Tryz.prog ops Q (o :: rest) a w := by
  obtain ⟨i, q1, q2, q3, q4⟩ := info_parts rw_info
  exact wpList_app_R Tryz.underlying58 q1 q2 q3 q4 (by simp [Value.cells]) (by omega) s y base v (l.map rwRow) hown.own (rwRow x) rfl ⟨rfl, rfl, trivial⟩ (by simp [rwRow, D.blocksL, D.blocks]) (fun g hg => by simp [rwRow, D.blocksL, D.blocks] at hg) ⟨gb, 0, none⟩ 1 (rwRow_cells h0 h1) (by rw [List.length_map]; exact hbound) (by omega) hbase hgd ho hs hy (fun v' w' o' => h v' w' (hown.snoc hx o'))

theorem gpRow_cells {w : World} {gb : Nat} {x : Gp} {u : Value} (h0 : w.cell? ⟨gb, 0, none⟩ = some (.int .i64 x.at_)) (h1 : w.cell? ⟨gb, 1, none⟩ = some (.int .i64 x.to_)) (h2 : w.cell? ⟨gb, 2, none⟩ = some u) :
    ∀ j d, (gpRow x u)[j]? = some d → w.cell? ((⟨gb, 0, none⟩ : Addr).add j) = some d.val := by
  intro j d hd
  match j, hd with
  | 0, hd => simp [gpRow] at hd; subst hd; simpa [Addr.add, D.val] using h0
  | 1, hd => simp [gpRow] at hd; subst hd; simpa [Addr.add, D.val] using h1
  | 2, hd => simp [gpRow] at hd; subst hd; simpa [Addr.add, D.val, rowsD] using h2
  | j + 3, hd => simp [gpRow] at hd
theorem gpRow_own {w : World} {base : Nat} {x : Gp} {u : Value} (hu : OwnRw w base u x.rows) : D.ownL w base (gpRow x u) ∧ (D.blocksL (gpRow x u)).Nodup := by
  refine ⟨⟨rfl, rfl, hu.datum.own, trivial⟩, ?_⟩
  simp only [gpRow, D.blocksL, D.blocks, rowsD_blocks, List.nil_append, List.append_nil]
  cases u.ownBlock <;> simp
theorem gpRow_blk {x : Gp} {u v : Value} {rows : List (List D)} (hf : ∀ g, u.ownBlock = some g → ¬ BlkR v rows g) : ∀ g ∈ D.blocksL (gpRow x u), ¬ BlkR v rows g := by
  intro g hg
  simp only [gpRow, D.blocksL, D.blocks, rowsD_blocks, List.nil_append, List.append_nil] at hg
  exact hf g (by simpa using hg)
theorem wpList_gp {w : World} {ops : Array Oper} {rest : List Oper} {o : Oper} {a : Act} {Q : Exit → Act → World → Prop} (s y : Operand) (base : Nat) (v : Value) (l : List Gp) (rows : List (List D)) (hown : OwnGp w base v l rows) (x : Gp) (hx : GpOk x) (u : Value) (hu : OwnRw w base u x.rows) (hf : ∀ g, u.ownBlock = some g → ¬ BlkR v rows g)
    (gb : Nat) (h0 : w.cell? ⟨gb, 0, none⟩ = some (.int .i64 x.at_)) (h1 : w.cell? ⟨gb, 1, none⟩ = some (.int .i64 x.to_)) (h2 : w.cell? ⟨gb, 2, none⟩ = some u) (hbound : l.length ≤ 1048576) (hbase : base ≤ w.heap.size)
    (hgd : Region.wanted o (yielded ops a.tmps) = true) (ho : o.op = .call { callee := .builtin .append, args := #[s, y], argTypes := #[24, 24] }) (hs : a.eval s = v) (hy : a.eval y = .slice (some ⟨gb, 0, none⟩) 1 1)
    (h : ∀ v' w', OwnGp w' base v' (l ++ [x]) (rows ++ [gpRow x u]) → w.grownBy w' v.ownBlock → (v'.ownBlock = v.ownBlock ∨ v'.ownBlock = some w.heap.size) → wpList Tryz.prog ops Q rest (a.put o.dst v') w') : wpList Tryz.prog ops Q (o :: rest) a w := by
  obtain ⟨i, q1, q2, q3, q4⟩ := info_parts gp_info
  obtain ⟨r1, r2⟩ := gpRow_own (x := x) hu
  exact wpList_app_R Tryz.underlying24 q1 q2 q3 q4 (by simp [Value.cells]) (by omega) s y base v rows hown.own (gpRow x u) rfl r1 r2 (gpRow_blk hf) ⟨gb, 0, none⟩ 1 (gpRow_cells h0 h1 h2) (by rw [hown.len]; exact hbound) (by omega) hbase hgd ho hs hy (fun v' w' o' => h v' w' (hown.snoc hx o'))
theorem step_gp {w : World} {ops : Array Oper} {o : Oper} {a : Act} {K : Act → World → Prop} {Q : Exit → Act → World → Prop} {E : Prop} (s y : Operand) (base : Nat) (v : Value) (l : List Gp) (rows : List (List D)) (hown : OwnGp w base v l rows) (x : Gp) (hx : GpOk x) (u : Value) (hu : OwnRw w base u x.rows) (hf : ∀ g, u.ownBlock = some g → ¬ BlkR v rows g)
    (gb : Nat) (h0 : w.cell? ⟨gb, 0, none⟩ = some (.int .i64 x.at_)) (h1 : w.cell? ⟨gb, 1, none⟩ = some (.int .i64 x.to_)) (h2 : w.cell? ⟨gb, 2, none⟩ = some u) (hbound : l.length ≤ 1048576) (hbase : base ≤ w.heap.size)
    (hgd : Region.wanted o (yielded ops a.tmps) = true) (ho : o.op = .call { callee := .builtin .append, args := #[s, y], argTypes := #[24, 24] }) (hs : a.eval s = v) (hy : a.eval y = .slice (some ⟨gb, 0, none⟩) 1 1)
    (h : ∀ v' w', OwnGp w' base v' (l ++ [x]) (rows ++ [gpRow x u]) → w.grownBy w' v.ownBlock → (v'.ownBlock = v.ownBlock ∨ v'.ownBlock = some w.heap.size) → K (a.put o.dst v') w') : if Region.wanted o (yielded ops a.tmps) = true then Oper.wp Tryz.prog o a w K Q else E := by
  obtain ⟨i, q1, q2, q3, q4⟩ := info_parts gp_info
  obtain ⟨r1, r2⟩ := gpRow_own (x := x) hu
  exact step_app_R Tryz.underlying24 q1 q2 q3 q4 (by simp [Value.cells]) (by omega) s y base v rows hown.own (gpRow x u) rfl r1 r2 (gpRow_blk hf) ⟨gb, 0, none⟩ 1 (gpRow_cells h0 h1 h2) (by rw [hown.len]; exact hbound) (by omega) hbase hgd ho hs hy (fun v' w' o' => h v' w' (hown.snoc hx o'))

set_option maxHeartbeats 1000000 in
theorem addRows_any (v0 : Value) (out : List Rw) (k : Int) (A : Option Addr) (m c base : Nat) (r : List ByteArray) (w : World) (ho : OwnRw w base v0 out) (hk : i64ok k) (hr : ∀ w', Below base w w' → Strs w' A m r) (hbase : base ≤ w.heap.size) (hb : out.length + m ≤ 1048576) :
    Calls Tryz.prog 136 #[v0, .int .i64 k, .slice A m c] w fun e w' => ∃ v, e = .returned v ∧ OwnRw w' base v (out ++ kR k r) ∧ Below base w w' := by
  have HL := Lib.hid (hr w (Below.refl _ _)).len
  have HR := Lib.hid hr
  clear hr
  go_enter Tryz.func136, Tryz.ntmps136
  go_wp2
  go_loopw [0, 11] (fun lv i w' => ∃ (v : Value) (j : Nat), v = lv ∧ i = .int .i64 j ∧ j ≤ m ∧ OwnRw w' base v (out ++ kR k (r.take j)) ∧ Below base w w') (fun _ i _ => m - (intOf i).toNat)
  case atStart => exact ⟨v0, 0, rfl, rfl, by omega, by simpa [kR] using ho, Below.refl _ _⟩
  case round =>
    obtain ⟨v, j, rfl, rfl, hj, ho, hbl⟩ := hrel
    have hst := HR.out wr hbl
    by_cases hlt : j < m
    · obtain ⟨b, off, s, rfl, hs, hsz, hc⟩ := hst.at_ hlt
      have HS := Lib.hid (kR_snoc (k := k) hs)
      have hlen : (out ++ kR k (r.take j)).length ≤ 1048576 := by rw [List.length_append, kR_len, List.length_take]; omega
      have hz : base ≤ wr.heap.size := Nat.le_trans hbase hbl.size
      have hoA := ho.below (below_alloc wr (.cells #[.int .i64 k, .string s] 62))
      have hbk : ∀ b, v.ownBlock = some b → base ≤ b := fun b e => (ho.lt e).1
      have hx : RwOk ⟨k, s⟩ := ⟨hk, hsz⟩
      clear hs hst
      go_wp2_with (at_builtin; refine wpList_rw (.tmp 15) (.tmp 19) base v (out ++ kR k (r.take j)) hoA ⟨k, s⟩ hx wr.heap.size (by simp) (by simp) hlen (by simp; omega) rfl rfl rfl rfl ?_; intro v3 w3 o3 g3 p3)
      go_roundw
      case rel =>
        refine ⟨v3, j + 1, rfl, by go_num, by omega, ?_, Below.grown (hbl.alloc hz _) g3 (by simp; omega) (fun b e => hbk b e)⟩
        rw [HS.out, ← List.append_assoc]
        exact o3
      case measure => simp [intOf]; omega
    · have hf := Lib.hid (show r.take j = r from List.take_of_length_le (by rw [HL.out]; omega))
      go_wp2
      go_ret
      exact ⟨v, rfl, by rw [hf.out] at ho; exact ho, hbl⟩

set_option maxHeartbeats 1000000 in
theorem l6Rows_any (k : Int) (A : Option Addr) (m c : Nat) (r : List ByteArray) (w : World) (hk : i64ok k) (hr : Strs w A m r) (hm : m ≤ 1048576) :
    Calls Tryz.prog 158 #[.int .i64 k, .slice A m c] w fun e w' => ∃ v, e = .returned v ∧ OwnRw w' w.heap.size v (kR k r) ∧ Below w.heap.size w w' := by
  have HL := Lib.hid hr.len
  go_enter Tryz.func158, Tryz.ntmps158
  go_wp2
  go_loopw [5, 10] (fun lv i w' => ∃ (v : Value) (j : Nat), v = lv ∧ i = .int .i64 j ∧ j ≤ m ∧ OwnRw w' w.heap.size v (kR k (r.take j)) ∧ Below w.heap.size w w') (fun _ i _ => m - (intOf i).toNat)
  case atStart => exact ⟨_, 0, rfl, rfl, by omega, OwnRw.nil_, Below.refl _ _⟩
  case round =>
    obtain ⟨v, j, rfl, rfl, hj, ho, hbl⟩ := hrel
    have hst := hr.below hbl
    by_cases hlt : j < m
    · obtain ⟨b, off, s, rfl, hs, hsz, hc⟩ := hst.at_ hlt
      have HS := Lib.hid (kR_snoc (k := k) hs)
      have hlen : (kR k (r.take j)).length ≤ 1048576 := by rw [kR_len, List.length_take]; omega
      have hz := hbl.size
      have hoA := ho.below (below_alloc wr (.cells #[.int .i64 k, .string s] 62))
      have hbk : ∀ b, v.ownBlock = some b → w.heap.size ≤ b := fun b e => (ho.lt e).1
      have hx : RwOk ⟨k, s⟩ := ⟨hk, hsz⟩
      clear hs hst
      go_wp2_with (at_builtin; refine wpList_rw (.tmp 14) (.tmp 18) w.heap.size v (kR k (r.take j)) hoA ⟨k, s⟩ hx wr.heap.size (by simp) (by simp) hlen (by simp; omega) rfl rfl rfl rfl ?_; intro v3 w3 o3 g3 p3)
      go_roundw
      case rel => exact ⟨v3, j + 1, rfl, by go_num, by omega, by rw [HS.out]; exact o3, Below.grown (hbl.alloc hz _) g3 (by simp; omega) (fun b e => hbk b e)⟩
      case measure => simp [intOf]; omega
    · have hf := Lib.hid (show r.take j = r from List.take_of_length_le (by rw [HL.out]; omega))
      go_wp2
      go_ret
      exact ⟨v, rfl, by rw [hf.out] at ho; exact ho, hbl⟩

end Go.Proofs.YtkamenidgkjodaaGreatDoor

namespace Go.Proofs.YtkamenidgkjodaaGreatDoor
open Go.RowKit Go.ChangeShapes Go.WideShapes M

set_option maxHeartbeats 400000 in
theorem goneOfG_any (a : Option Addr) (nl cl : Nat) (b off at' go hi : Nat) (w : World) (k0 : w.cell? ⟨b, off, none⟩ = some (.int .i64 (at' : Int))) (k1 : w.cell? ⟨b, off + 1, none⟩ = some (.int .i64 (go : Int))) (hhi : hi = at' + go) (h1 : hi ≤ nl) (h2 : nl ≤ cl) (h3 : nl ≤ 1048576) :
    Calls Tryz.prog 137 #[.slice a nl cl, .pointer (some ⟨b, off, none⟩)] w fun e w' => e = .returned (.slice (cutA a hi at') (hi - at') (hi - at')) ∧ Drawn w w' := by
  have hwe : IntKind.i64.wrap ((at' : Int) + (go : Int)) = (hi : Int) := by rw [IntKind.wrap_i64]; omega
  have hcut := cut3_strs a nl cl at' hi (by omega) (by omega)
  clear hhi
  go_enter Tryz.func137, Tryz.ntmps137
  go_wp2
  go_quiet (fail)
  go_wp2
  go_ret
  exact ⟨rfl, (Drawn.refl _).more _⟩

set_option maxHeartbeats 4000000 in
set_option maxRecDepth 100000 in
theorem rowsOf_any (a : Option Addr) (nl cl : Nat) (l : List ByteArray) (b0 : Option Addr) (n c : Nat) (hs : List Hk) (p0 : Nat) (w : World) (hl : Strs w a nl l) (hcl : nl ≤ cl) (hh : Hks w b0 n hs) (hr0 : restOk nl hs p0) (hp0 : p0 ≤ nl) (hnl : nl ≤ 40) (hn : n ≤ 80) :
    Calls Tryz.prog 100 #[.slice a nl cl, .slice b0 n c, .int .i64 (p0 : Int)] w fun e w' => ∃ v, e = .returned v ∧ OwnRw w' w.heap.size v (rowsI l p0 hs) ∧ Below w.heap.size w w' := by
  have HL := Lib.hid hl.len
  have HN := Lib.hid hh.len
  have HR0 := Lib.hid hr0
  clear hr0
  go_enter Tryz.func100, Tryz.ntmps100
  go_wp2
  go_loopw [2, 7, 12] (fun q lv i w' => ∃ (v : Value) (out : List Rw), ∃ j p : Nat, v = lv ∧ i = .int .i64 j ∧ q = .int .i64 (p : Int) ∧ j ≤ n ∧ p ≤ nl ∧ OwnRw w' w.heap.size v out ∧ Hid (out.length ≤ 120 * j) ∧ Hid (restOk nl (hs.drop j) p) ∧ Hid (out ++ rowsI l p (hs.drop j) = rowsI l p0 hs) ∧ Below w.heap.size w w') (fun _ _ i _ => n - (intOf i).toNat)
  case atStart => exact ⟨_, [], 0, p0, rfl, rfl, rfl, by omega, hp0, OwnRw.nil_, show _ ≤ _ by simp, HR0.out, rfl, Below.refl _ _⟩
  case round =>
    obtain ⟨v, out, j, p, rfl, rfl, rfl, hj, hp, ho, HO, HR, HP, hb⟩ := hrel
    by_cases hlt : j < n
    · obtain ⟨b, off, A, m, c', x, rfl, hx, c0, c1, c2, hst, hmc, i0, i1⟩ := hh.at_ hlt
      obtain ⟨at', go, ea, eg, hpa, hag, hln, hno, hrest⟩ := rest_step hx HR.out
      have hstep := Lib.hid (rowsI_step (l := l) (p := p) hx)
      obtain ⟨xa, xg, xn⟩ := x
      dsimp only at ea eg hln c0 c1 c2 hst i0 i1
      subst ea eg
      have hm40 : m ≤ 40 := by rw [← hst.len]; exact linesB_len hln
      have hag2 : at' + go ≤ nl := by omega
      obtain ⟨hi, Hhi⟩ : ∃ hi, Hid (hi = at' + go) := ⟨_, rfl⟩
      have hhn : hi ≤ nl := by rw [Hhi.out]; exact hag2
      have hah : at' ≤ hi := by rw [Hhi.out]; omega
      have HREST := Lib.hid (show restOk nl (hs.drop (j + 1)) hi by rw [Hhi.out]; exact hrest)
      have HM := Lib.hid hst.len
      have HST := Lib.hid hst
      have HC0 := Lib.hid c0
      have HC1 := Lib.hid c1
      have HC2 := Lib.hid c2
      have HHL := Lib.hid hl
      have hlen0 : out.length ≤ 9600 := by have := HO.out; omega
      clear hx hrest hag hln hno hag2 hst
      have hcut := cut_strs a nl cl p at' hpa (by omega)
      have hwe : IntKind.i64.wrap ((at' : Int) + (go : Int)) = (hi : Int) := by have h := Hhi.out; rw [IntKind.wrap_i64]; omega
      have d0 := cell_keep hb c0
      clear c0 c1 c2
      go_wp2_with fail
      refine (addRows_any v out 1 (cutA a cl p) (at' - p) (cl - p) w.heap.size (seg l p at') wr ho ⟨by decide, by decide⟩ (fun w' h => (HHL.out.below (hb.trans h)).cut hpa (by omega) hcl) hb.size (by omega)).mono ?_
      rintro e w1 ⟨v1, rfl, o1, b1⟩
      have B1 := Lib.hid (hb.trans b1)
      have L1 := Lib.hid (show (out ++ kR 1 (seg l p at')).length ≤ 9640 by rw [List.length_append, kR_len, seg_len]; omega)
      clear b1 d0
      go_wp2_with fail
      refine (goneOfG_any a nl cl b (off + j * 3) at' go hi _ (cell_keep B1.out HC0.out) (cell_keep B1.out HC1.out) Hhi.out hhn hcl (by omega)).mono ?_
      rintro e w2 ⟨rfl, d2⟩
      have B2 := Lib.hid (B1.out.next d2.below)
      have o2 := o1.below d2.below
      clear d2 o1
      go_wp2_with fail
      refine (addRows_any v1 (out ++ kR 1 (seg l p at')) 2 (cutA a hi at') (hi - at') (hi - at') w.heap.size (seg l at' hi) w2 o2 ⟨by decide, by decide⟩ (fun w' h => (HHL.out.below (B2.out.trans h)).cut3 hah hhn) B2.out.size (by have := L1.out; omega)).mono ?_
      rintro e w3 ⟨v3, rfl, o3, b3⟩
      have B3 := Lib.hid (B2.out.trans b3)
      have L3 := Lib.hid (show (out ++ kR 1 (seg l p at') ++ kR 2 (seg l at' hi)).length ≤ 9680 by rw [List.length_append, kR_len, seg_len]; have := L1.out; omega)
      have d2 := cell_keep B3.out HC2.out
      clear b3 o2
      go_wp2_with fail
      refine (addRows_any v3 (out ++ kR 1 (seg l p at') ++ kR 2 (seg l at' hi)) 3 A m c' w.heap.size xn w3 o3 ⟨by decide, by decide⟩ (fun w' h => HST.out.below (B3.out.trans h)) B3.out.size (by have := L3.out; omega)).mono ?_
      rintro e w4 ⟨v4, rfl, o4, b4⟩
      have B4 := Lib.hid (B3.out.trans b4)
      have k0 := cell_keep B4.out HC0.out
      have k1 := cell_keep B4.out HC1.out
      clear b4 o3 d2
      go_wp2
      go_quiet (fail)
      go_wp2
      go_roundw
      case rel => exact ⟨v4, out ++ kR 1 (seg l p at') ++ kR 2 (seg l at' hi) ++ kR 3 xn, j + 1, hi, rfl, by go_num, rfl, by omega, hhn, o4.below (below_drewN (Below.refl _ _) _), show _ ≤ _ by
          have := HO.out; simp only [List.length_append, kR_len, seg_len, HM.out]; omega, HREST.out, show _ = _ by
          have h5 := hstep.out
          try dsimp only at h5
          rw [Int.toNat_natCast, show ((at' : Int) + (go : Int)).toNat = hi from by rw [Hhi.out]; omega] at h5
          rw [← HP.out, h5]
          simp only [List.append_assoc], below_drewN B4.out _⟩
      case measure => simp [intOf]; omega
    · have hcut := cut_lo_strs a nl cl p hp hcl
      have hfin := Lib.hid (rowsI_end (l := l) (hs := hs) (p := p) (j := j) (by rw [HN.out]; omega))
      have HHL := Lib.hid hl
      have hlen0 : out.length ≤ 9600 := by have := HO.out; omega
      go_wp2_with fail
      refine (addRows_any v out 1 (cutA a cl p) (nl - p) (cl - p) w.heap.size (l.drop p) wr ho ⟨by decide, by decide⟩ (fun w' h => (HHL.out.below (hb.trans h)).drop_ hp hcl) hb.size (by omega)).mono ?_
      rintro e w1 ⟨v1, rfl, o1, b1⟩
      have B1 := Lib.hid (hb.trans b1)
      clear b1
      go_wp2
      go_ret
      exact ⟨v1, rfl, by rw [← HP.out, hfin.out]; exact o1, B1.out⟩

end Go.Proofs.YtkamenidgkjodaaGreatDoor

namespace Go.Proofs.YtkamenidgkjodaaGreatDoor
open Go.RowKit Go.ChangeShapes Go.WideShapes M

set_option maxHeartbeats 4000000 in
set_option maxRecDepth 100000 in
theorem howManyNear_any (b0 : Option Addr) (n c : Nat) (x : Hk) (r : List Hk) (W : Nat) (w : World) (hh : Hks w b0 n (x :: r)) (hb0 : ∀ y ∈ x :: r, 0 ≤ y.at_ ∧ y.at_ ≤ 40 ∧ 0 ≤ y.gone ∧ y.gone ≤ 40) (hW : W ≤ 20) (hn : n ≤ 20) :
    Calls Tryz.prog 98 #[.slice b0 n c, .int .i64 (W : Int)] w fun e w' => e = .returned (.int .i64 ((runF W x r + 1 : Nat) : Int)) ∧ Below w.heap.size w w' := by
  have HL := Lib.hid hh.len
  have HB0 := Lib.hid hb0
  clear hb0
  go_enter Tryz.func98, Tryz.ntmps98
  go_wp2
  go_loopw [5] (fun i w' => ∃ j : Nat, i = .int .i64 j ∧ 1 ≤ j ∧ j ≤ n ∧ Hid (∃ y, (x :: r)[j - 1]? = some y ∧ runF W x r = (j - 1) + runF W y ((x :: r).drop j)) ∧ Below w.heap.size w w') (fun i _ => n - (intOf i).toNat)
  case atStart => exact ⟨1, rfl, by omega, by have := HL.out; simp at this; omega, ⟨x, rfl, by simp⟩, Below.refl _ _⟩
  case round =>
    obtain ⟨j, rfl, hj1, hj, H, hb⟩ := hrel
    by_cases hlt : j < n
    · obtain ⟨b, off, A, m, c', z, rfl, hz, z0, z1, z2, _, _, _, _⟩ := (hh.below hb).at_ hlt
      obtain ⟨b', off', A', m', c2', y, hbo, hy, y0, y1, y2, _, _, _, _⟩ := (hh.below hb).at_ (show j - 1 < n by omega)
      injection hbo with hbo
      injection hbo with hbo1 hbo2
      subst hbo1 hbo2
      have hzb := HB0.out z (List.mem_of_getElem? hz)
      have hyb := HB0.out y (List.mem_of_getElem? hy)
      have HRUN := Lib.hid (show runF W x r = (j - 1) + (if z.at_ - y.at_ - y.gone ≤ 2 * (W : Int) then runF W z ((x :: r).drop (j + 1)) + 1 else 0) by
        obtain ⟨y', hy', e⟩ := H.out
        rw [hy] at hy'
        injection hy' with hy'
        subst hy'
        rw [e, drop_at hz]
        rfl)
      have HZ := Lib.hid hz
      obtain ⟨za0, za1, zg0, zg1⟩ := hzb
      obtain ⟨ya0, ya1, yg0, yg1⟩ := hyb
      obtain ⟨za, zg, zn⟩ := z
      obtain ⟨ya, yg, yn⟩ := y
      dsimp only at *
      have s1 : IntKind.i64.wrap ((j : Int) - 1) = (j : Int) - 1 := by rw [IntKind.wrap_i64]; omega
      have s2 : IntKind.i64.wrap (za - ya) = za - ya := by rw [IntKind.wrap_i64]; omega
      have s3 : IntKind.i64.wrap (za - ya - yg) = za - ya - yg := by rw [IntKind.wrap_i64]; omega
      have s4 : IntKind.i64.wrap (2 * (W : Int)) = 2 * (W : Int) := by rw [IntKind.wrap_i64]; omega
      have i0 : (0 : Int) ≤ (j : Int) - 1 := by omega
      have i0' : (1 : Int) ≤ (j : Int) := by omega
      have i1 : (j : Int) - 1 < (n : Int) := by omega
      have i2 : (0 : Int) ≤ (j : Int) := by omega
      have i3 : (j : Int) < (n : Int) := by omega
      have htn : ((j : Int) - 1).toNat = j - 1 := by omega
      have hd : decide ((j : Int) < (n : Int)) = true := by simp; omega
      have hd' : decide (j < n) = true := by simp [hlt]
      clear hz hy
      by_cases q : za - ya - yg ≤ 2 * (W : Int)
      · have e1 : decide (za - ya - yg ≤ 2 * (W : Int)) = true := decide_eq_true q
        have HN := Lib.hid (show runF W x r = j + runF W ⟨za, zg, zn⟩ ((x :: r).drop (j + 1)) by rw [HRUN.out, if_pos q]; omega)
        clear q
        go_wp2
        refine wp_region_held_drew (S := fun w' => w'.cell? ⟨b, off + j * 3, none⟩ = some (.int .i64 za) ∧ w'.cell? ⟨b, off + (j - 1) * 3, none⟩ = some (.int .i64 ya) ∧ w'.cell? ⟨b, off + (j - 1) * 3 + 1, none⟩ = some (.int .i64 yg)) (by kernel_rfl) ?_ (fun hHeld => ?_)
        · exact ⟨z0, y0, y1⟩
        refine wpAnyH_take (i := 0) (v := ?_) (by simp only [List.getElem?_toArray, List.getElem?_cons_succ, List.getElem?_cons_zero]; rfl) (by kernel_rfl) (by kernel_rfl) (by kernel_rfl) (by exact fun _ _ _ h => h) (Or.inl ⟨by rfl, ?_⟩) hHeld ?_
        rotate_left 1
        · (intro w hSw; (try dsimp only at hSw); go_simp; (try with_reducible rfl))
        (try simp only [Act.put, List.setIfInBounds_toArray, List.set_cons_zero, List.set_cons_succ])
        refine wpAnyH_take (i := 1) (v := ?_) (by simp only [List.getElem?_toArray, List.getElem?_cons_succ, List.getElem?_cons_zero]; rfl) (by kernel_rfl) (by kernel_rfl) (by kernel_rfl) (by exact fun _ _ _ h => h) (Or.inl ⟨by rfl, ?_⟩) hHeld ?_
        rotate_left 1
        · (intro w hSw; (try dsimp only at hSw); go_simp; (try with_reducible rfl))
        (try simp only [Act.put, List.setIfInBounds_toArray, List.set_cons_zero, List.set_cons_succ])
        refine wpAnyH_take (i := 2) (v := ?_) (by simp only [List.getElem?_toArray, List.getElem?_cons_succ, List.getElem?_cons_zero]; rfl) (by kernel_rfl) (by kernel_rfl) (by kernel_rfl) (by exact fun _ _ _ h => h) (Or.inl ⟨by rfl, ?_⟩) hHeld ?_
        rotate_left 1
        · (intro w hSw; (try dsimp only at hSw); go_simp; (try with_reducible rfl))
        (try simp only [Act.put, List.setIfInBounds_toArray, List.set_cons_zero, List.set_cons_succ])
        refine wpAnyH_take (i := 3) (v := ?_) (by simp only [List.getElem?_toArray, List.getElem?_cons_succ, List.getElem?_cons_zero]; rfl) (by kernel_rfl) (by kernel_rfl) (by kernel_rfl) (by exact fun _ _ _ h => h) (Or.inl ⟨by rfl, ?_⟩) hHeld ?_
        rotate_left 1
        · (intro w hSw; (try dsimp only at hSw); go_simp; (try with_reducible rfl))
        (try simp only [Act.put, List.setIfInBounds_toArray, List.set_cons_zero, List.set_cons_succ])
        refine wpAnyH_take (i := 4) (v := ?_) (by simp only [List.getElem?_toArray, List.getElem?_cons_succ, List.getElem?_cons_zero]; rfl) (by kernel_rfl) (by kernel_rfl) (by kernel_rfl) (by exact fun _ _ _ h => h) (Or.inl ⟨by rfl, ?_⟩) hHeld ?_
        rotate_left 1
        · (intro w hSw; (try dsimp only at hSw); go_simp; (try with_reducible rfl))
        (try simp only [Act.put, List.setIfInBounds_toArray, List.set_cons_zero, List.set_cons_succ])
        refine wpAnyH_take (i := 5) (v := ?_) (by simp only [List.getElem?_toArray, List.getElem?_cons_succ, List.getElem?_cons_zero]; rfl) (by kernel_rfl) (by kernel_rfl) (by kernel_rfl) (by exact fun _ _ _ h => h) (Or.inl ⟨by rfl, ?_⟩) hHeld ?_
        rotate_left 1
        · (intro w hSw; (try dsimp only at hSw); go_simp; (try with_reducible rfl))
        (try simp only [Act.put, List.setIfInBounds_toArray, List.set_cons_zero, List.set_cons_succ])
        refine wpAnyH_take (i := 6) (v := ?_) (by simp only [List.getElem?_toArray, List.getElem?_cons_succ, List.getElem?_cons_zero]; rfl) (by kernel_rfl) (by kernel_rfl) (by kernel_rfl) (by exact fun _ _ _ h => h) (Or.inl ⟨by rfl, ?_⟩) hHeld ?_
        rotate_left 1
        · (intro w hSw; (try dsimp only at hSw); go_simp; (try with_reducible rfl))
        (try simp only [Act.put, List.setIfInBounds_toArray, List.set_cons_zero, List.set_cons_succ])
        refine wpAnyH_take (i := 7) (v := ?_) (by simp only [List.getElem?_toArray, List.getElem?_cons_succ, List.getElem?_cons_zero]; rfl) (by kernel_rfl) (by kernel_rfl) (by kernel_rfl) (by exact fun _ _ _ h => h) (Or.inl ⟨by rfl, ?_⟩) hHeld ?_
        rotate_left 1
        · (intro w hSw; (try dsimp only at hSw); go_simp; (try with_reducible rfl))
        (try simp only [Act.put, List.setIfInBounds_toArray, List.set_cons_zero, List.set_cons_succ])
        refine wpAnyH_take (i := 8) (v := ?_) (by simp only [List.getElem?_toArray, List.getElem?_cons_succ, List.getElem?_cons_zero]; rfl) (by kernel_rfl) (by kernel_rfl) (by kernel_rfl) (by exact fun _ _ _ h => h) (Or.inl ⟨by rfl, ?_⟩) hHeld ?_
        rotate_left 1
        · (intro w hSw; (try dsimp only at hSw); go_simp; (try with_reducible rfl))
        (try simp only [Act.put, List.setIfInBounds_toArray, List.set_cons_zero, List.set_cons_succ])
        refine wpAnyH_take (i := 9) (v := ?_) (by simp only [List.getElem?_toArray, List.getElem?_cons_succ, List.getElem?_cons_zero]; rfl) (by kernel_rfl) (by kernel_rfl) (by kernel_rfl) (by exact fun _ _ _ h => h) (Or.inl ⟨by rfl, ?_⟩) hHeld ?_
        rotate_left 1
        · (intro w hSw; (try dsimp only at hSw); go_simp; (try with_reducible rfl))
        (try simp only [Act.put, List.setIfInBounds_toArray, List.set_cons_zero, List.set_cons_succ])
        refine wpAnyH_take (i := 10) (v := ?_) (by simp only [List.getElem?_toArray, List.getElem?_cons_succ, List.getElem?_cons_zero]; rfl) (by kernel_rfl) (by kernel_rfl) (by kernel_rfl) (by exact fun _ _ _ h => h) (Or.inl ⟨by rfl, ?_⟩) hHeld ?_
        rotate_left 1
        · (intro w hSw; (try dsimp only at hSw); go_simp; (try with_reducible rfl))
        (try simp only [Act.put, List.setIfInBounds_toArray, List.set_cons_zero, List.set_cons_succ])
        refine wpAnyH_take (i := 11) (v := ?_) (by simp only [List.getElem?_toArray, List.getElem?_cons_succ, List.getElem?_cons_zero]; rfl) (by kernel_rfl) (by kernel_rfl) (by kernel_rfl) (by exact fun _ _ _ h => h) (Or.inl ⟨by rfl, ?_⟩) hHeld ?_
        rotate_left 1
        · (intro w hSw; (try dsimp only at hSw); go_simp; (try with_reducible rfl))
        (try simp only [Act.put, List.setIfInBounds_toArray, List.set_cons_zero, List.set_cons_succ])
        refine wpAnyH_take (i := 12) (v := ?_) (by simp only [List.getElem?_toArray, List.getElem?_cons_succ, List.getElem?_cons_zero]; rfl) (by kernel_rfl) (by kernel_rfl) (by kernel_rfl) (by exact fun _ _ _ h => h) (Or.inl ⟨by rfl, ?_⟩) hHeld ?_
        rotate_left 1
        · (intro w hSw; (try dsimp only at hSw); go_simp; (try with_reducible rfl))
        (try simp only [Act.put, List.setIfInBounds_toArray, List.set_cons_zero, List.set_cons_succ])
        refine wpAnyH_take (i := 13) (v := ?_) (by simp only [List.getElem?_toArray, List.getElem?_cons_succ, List.getElem?_cons_zero]; rfl) (by kernel_rfl) (by kernel_rfl) (by kernel_rfl) (by exact fun _ _ _ h => h) (Or.inl ⟨by rfl, ?_⟩) hHeld ?_
        rotate_left 1
        · (intro w hSw; (try dsimp only at hSw); go_simp; (try with_reducible rfl))
        (try simp only [Act.put, List.setIfInBounds_toArray, List.set_cons_zero, List.set_cons_succ])
        refine wpAnyH_take (i := 14) (v := ?_) (by simp only [List.getElem?_toArray, List.getElem?_cons_succ, List.getElem?_cons_zero]; rfl) (by kernel_rfl) (by kernel_rfl) (by kernel_rfl) (by exact fun _ _ _ h => h) (Or.inl ⟨by rfl, ?_⟩) hHeld ?_
        rotate_left 1
        · (intro w hSw; (try dsimp only at hSw); go_simp; (try with_reducible rfl))
        (try simp only [Act.put, List.setIfInBounds_toArray, List.set_cons_zero, List.set_cons_succ])
        refine wpAnyH_take (i := 15) (v := ?_) (by simp only [List.getElem?_toArray, List.getElem?_cons_succ, List.getElem?_cons_zero]; rfl) (by kernel_rfl) (by kernel_rfl) (by kernel_rfl) (by exact fun _ _ _ h => h) (Or.inl ⟨by rfl, ?_⟩) hHeld ?_
        rotate_left 1
        · (intro w hSw; (try dsimp only at hSw); go_simp; (try with_reducible rfl))
        (try simp only [Act.put, List.setIfInBounds_toArray, List.set_cons_zero, List.set_cons_succ])
        refine wpAnyH_take (i := 16) (v := ?_) (by simp only [List.getElem?_toArray, List.getElem?_cons_succ, List.getElem?_cons_zero]; rfl) (by kernel_rfl) (by kernel_rfl) (by kernel_rfl) (by exact fun _ _ _ h => h) (Or.inl ⟨by rfl, ?_⟩) hHeld ?_
        rotate_left 1
        · (intro w hSw; (try dsimp only at hSw); go_simp; (try with_reducible rfl))
        (try simp only [Act.put, List.setIfInBounds_toArray, List.set_cons_zero, List.set_cons_succ])
        refine wpAnyH_take (i := 17) (v := ?_) (by simp only [List.getElem?_toArray, List.getElem?_cons_succ, List.getElem?_cons_zero]; rfl) (by kernel_rfl) (by kernel_rfl) (by kernel_rfl) (by exact fun _ _ _ h => h) (Or.inl ⟨by rfl, ?_⟩) hHeld ?_
        rotate_left 1
        · (intro w hSw; (try dsimp only at hSw); go_simp; (try with_reducible rfl))
        (try simp only [Act.put, List.setIfInBounds_toArray, List.set_cons_zero, List.set_cons_succ])
        refine wpAnyH_take (i := 18) (v := ?_) (by simp only [List.getElem?_toArray, List.getElem?_cons_succ, List.getElem?_cons_zero]; rfl) (by kernel_rfl) (by kernel_rfl) (by kernel_rfl) (by exact fun _ _ _ h => h) (Or.inl ⟨by rfl, ?_⟩) hHeld ?_
        rotate_left 1
        · (intro w hSw; (try dsimp only at hSw); go_simp; (try with_reducible rfl))
        (try simp only [Act.put, List.setIfInBounds_toArray, List.set_cons_zero, List.set_cons_succ])
        refine wpAnyH_take (i := 19) (v := ?_) (by simp only [List.getElem?_toArray, List.getElem?_cons_succ, List.getElem?_cons_zero]; rfl) (by kernel_rfl) (by kernel_rfl) (by kernel_rfl) (by exact fun _ _ _ h => h) (Or.inl ⟨by rfl, ?_⟩) hHeld ?_
        rotate_left 1
        · (intro w hSw; (try dsimp only at hSw); go_simp; (try with_reducible rfl))
        (try simp only [Act.put, List.setIfInBounds_toArray, List.set_cons_zero, List.set_cons_succ])
        refine wpAnyH_take (i := 20) (v := ?_) (by simp only [List.getElem?_toArray, List.getElem?_cons_succ, List.getElem?_cons_zero]; rfl) (by kernel_rfl) (by kernel_rfl) (by kernel_rfl) (by exact fun _ _ _ h => h) (Or.inl ⟨by rfl, ?_⟩) hHeld ?_
        rotate_left 1
        · (intro w hSw; (try dsimp only at hSw); go_simp; (try with_reducible rfl))
        (try simp only [Act.put, List.setIfInBounds_toArray, List.set_cons_zero, List.set_cons_succ])
        refine wpAnyH_take (i := 21) (v := ?_) (by simp only [List.getElem?_toArray, List.getElem?_cons_succ, List.getElem?_cons_zero]; rfl) (by kernel_rfl) (by kernel_rfl) (by kernel_rfl) (by exact fun _ _ _ h => h) (Or.inl ⟨by rfl, ?_⟩) hHeld ?_
        rotate_left 1
        · (intro w hSw; (try dsimp only at hSw); go_simp; (try with_reducible rfl))
        (try simp only [Act.put, List.setIfInBounds_toArray, List.set_cons_zero, List.set_cons_succ])
        refine wpAnyH_take (i := 22) (v := ?_) (by simp only [List.getElem?_toArray, List.getElem?_cons_succ, List.getElem?_cons_zero]; rfl) (by kernel_rfl) (by kernel_rfl) (by kernel_rfl) (by exact fun _ _ _ h => h) (Or.inl ⟨by rfl, ?_⟩) hHeld ?_
        rotate_left 1
        · (intro w hSw; (try dsimp only at hSw); go_simp; (try with_reducible rfl))
        (try simp only [Act.put, List.setIfInBounds_toArray, List.set_cons_zero, List.set_cons_succ])
        refine wpAnyH_take (i := 23) (v := ?_) (by simp only [List.getElem?_toArray, List.getElem?_cons_succ, List.getElem?_cons_zero]; rfl) (by kernel_rfl) (by kernel_rfl) (by kernel_rfl) (by exact fun _ _ _ h => h) (Or.inl ⟨by rfl, ?_⟩) hHeld ?_
        rotate_left 1
        · (intro w hSw; (try dsimp only at hSw); go_simp; (try with_reducible rfl))
        (try simp only [Act.put, List.setIfInBounds_toArray, List.set_cons_zero, List.set_cons_succ])
        refine wpAnyH_take (i := 24) (v := ?_) (by simp only [List.getElem?_toArray, List.getElem?_cons_succ, List.getElem?_cons_zero]; rfl) (by kernel_rfl) (by kernel_rfl) (by kernel_rfl) (by exact fun _ _ _ h => h) (Or.inl ⟨by rfl, ?_⟩) hHeld ?_
        rotate_left 1
        · (intro w hSw; (try dsimp only at hSw); go_simp; (try with_reducible rfl))
        (try simp only [Act.put, List.setIfInBounds_toArray, List.set_cons_zero, List.set_cons_succ])
        refine wpAnyH_take (i := 25) (v := ?_) (by simp only [List.getElem?_toArray, List.getElem?_cons_succ, List.getElem?_cons_zero]; rfl) (by kernel_rfl) (by kernel_rfl) (by kernel_rfl) (by exact fun _ _ _ h => h) (Or.inl ⟨by rfl, ?_⟩) hHeld ?_
        rotate_left 1
        · (intro w hSw; (try dsimp only at hSw); go_simp; (try with_reducible rfl))
        (try simp only [Act.put, List.setIfInBounds_toArray, List.set_cons_zero, List.set_cons_succ])
        refine wpAnyH_take (i := 26) (v := ?_) (by simp only [List.getElem?_toArray, List.getElem?_cons_succ, List.getElem?_cons_zero]; rfl) (by kernel_rfl) (by kernel_rfl) (by kernel_rfl) (by exact fun _ _ _ h => h) (Or.inl ⟨by rfl, ?_⟩) hHeld ?_
        rotate_left 1
        · (intro w hSw; (try dsimp only at hSw); go_simp; (try with_reducible rfl))
        (try simp only [Act.put, List.setIfInBounds_toArray, List.set_cons_zero, List.set_cons_succ])
        refine wpAnyH_take (i := 27) (v := ?_) (by simp only [List.getElem?_toArray, List.getElem?_cons_succ, List.getElem?_cons_zero]; rfl) (by kernel_rfl) (by kernel_rfl) (by kernel_rfl) (by exact fun _ _ _ h => h) (Or.inl ⟨by rfl, ?_⟩) hHeld ?_
        rotate_left 1
        · (intro w hSw; (try dsimp only at hSw); go_simp; (try with_reducible rfl))
        (try simp only [Act.put, List.setIfInBounds_toArray, List.set_cons_zero, List.set_cons_succ])
        refine wpAnyH_done (by kernel_rfl) ?_ _
        go_wp2
        go_roundw
        case rel => exact ⟨j + 1, by go_num, by omega, by omega, ⟨⟨za, zg, zn⟩, by simpa using HZ.out, by rw [HN.out]; omega⟩, hb.drew⟩
        case measure => simp [intOf]; omega
      · have e1 : decide (za - ya - yg ≤ 2 * (W : Int)) = false := decide_eq_false q
        have HN := Lib.hid (show runF W x r + 1 = j by rw [HRUN.out, if_neg q]; omega)
        clear q
        go_wp2
        refine wp_region_held_drew (S := fun w' => w'.cell? ⟨b, off + j * 3, none⟩ = some (.int .i64 za) ∧ w'.cell? ⟨b, off + (j - 1) * 3, none⟩ = some (.int .i64 ya) ∧ w'.cell? ⟨b, off + (j - 1) * 3 + 1, none⟩ = some (.int .i64 yg)) (by kernel_rfl) ?_ (fun hHeld => ?_)
        · exact ⟨z0, y0, y1⟩
        refine wpAnyH_take (i := 0) (v := ?_) (by simp only [List.getElem?_toArray, List.getElem?_cons_succ, List.getElem?_cons_zero]; rfl) (by kernel_rfl) (by kernel_rfl) (by kernel_rfl) (by exact fun _ _ _ h => h) (Or.inl ⟨by rfl, ?_⟩) hHeld ?_
        rotate_left 1
        · (intro w hSw; (try dsimp only at hSw); go_simp; (try with_reducible rfl))
        (try simp only [Act.put, List.setIfInBounds_toArray, List.set_cons_zero, List.set_cons_succ])
        refine wpAnyH_take (i := 1) (v := ?_) (by simp only [List.getElem?_toArray, List.getElem?_cons_succ, List.getElem?_cons_zero]; rfl) (by kernel_rfl) (by kernel_rfl) (by kernel_rfl) (by exact fun _ _ _ h => h) (Or.inl ⟨by rfl, ?_⟩) hHeld ?_
        rotate_left 1
        · (intro w hSw; (try dsimp only at hSw); go_simp; (try with_reducible rfl))
        (try simp only [Act.put, List.setIfInBounds_toArray, List.set_cons_zero, List.set_cons_succ])
        refine wpAnyH_take (i := 2) (v := ?_) (by simp only [List.getElem?_toArray, List.getElem?_cons_succ, List.getElem?_cons_zero]; rfl) (by kernel_rfl) (by kernel_rfl) (by kernel_rfl) (by exact fun _ _ _ h => h) (Or.inl ⟨by rfl, ?_⟩) hHeld ?_
        rotate_left 1
        · (intro w hSw; (try dsimp only at hSw); go_simp; (try with_reducible rfl))
        (try simp only [Act.put, List.setIfInBounds_toArray, List.set_cons_zero, List.set_cons_succ])
        refine wpAnyH_take (i := 3) (v := ?_) (by simp only [List.getElem?_toArray, List.getElem?_cons_succ, List.getElem?_cons_zero]; rfl) (by kernel_rfl) (by kernel_rfl) (by kernel_rfl) (by exact fun _ _ _ h => h) (Or.inl ⟨by rfl, ?_⟩) hHeld ?_
        rotate_left 1
        · (intro w hSw; (try dsimp only at hSw); go_simp; (try with_reducible rfl))
        (try simp only [Act.put, List.setIfInBounds_toArray, List.set_cons_zero, List.set_cons_succ])
        refine wpAnyH_take (i := 4) (v := ?_) (by simp only [List.getElem?_toArray, List.getElem?_cons_succ, List.getElem?_cons_zero]; rfl) (by kernel_rfl) (by kernel_rfl) (by kernel_rfl) (by exact fun _ _ _ h => h) (Or.inl ⟨by rfl, ?_⟩) hHeld ?_
        rotate_left 1
        · (intro w hSw; (try dsimp only at hSw); go_simp; (try with_reducible rfl))
        (try simp only [Act.put, List.setIfInBounds_toArray, List.set_cons_zero, List.set_cons_succ])
        refine wpAnyH_take (i := 5) (v := ?_) (by simp only [List.getElem?_toArray, List.getElem?_cons_succ, List.getElem?_cons_zero]; rfl) (by kernel_rfl) (by kernel_rfl) (by kernel_rfl) (by exact fun _ _ _ h => h) (Or.inl ⟨by rfl, ?_⟩) hHeld ?_
        rotate_left 1
        · (intro w hSw; (try dsimp only at hSw); go_simp; (try with_reducible rfl))
        (try simp only [Act.put, List.setIfInBounds_toArray, List.set_cons_zero, List.set_cons_succ])
        refine wpAnyH_take (i := 6) (v := ?_) (by simp only [List.getElem?_toArray, List.getElem?_cons_succ, List.getElem?_cons_zero]; rfl) (by kernel_rfl) (by kernel_rfl) (by kernel_rfl) (by exact fun _ _ _ h => h) (Or.inl ⟨by rfl, ?_⟩) hHeld ?_
        rotate_left 1
        · (intro w hSw; (try dsimp only at hSw); go_simp; (try with_reducible rfl))
        (try simp only [Act.put, List.setIfInBounds_toArray, List.set_cons_zero, List.set_cons_succ])
        refine wpAnyH_take (i := 7) (v := ?_) (by simp only [List.getElem?_toArray, List.getElem?_cons_succ, List.getElem?_cons_zero]; rfl) (by kernel_rfl) (by kernel_rfl) (by kernel_rfl) (by exact fun _ _ _ h => h) (Or.inl ⟨by rfl, ?_⟩) hHeld ?_
        rotate_left 1
        · (intro w hSw; (try dsimp only at hSw); go_simp; (try with_reducible rfl))
        (try simp only [Act.put, List.setIfInBounds_toArray, List.set_cons_zero, List.set_cons_succ])
        refine wpAnyH_take (i := 8) (v := ?_) (by simp only [List.getElem?_toArray, List.getElem?_cons_succ, List.getElem?_cons_zero]; rfl) (by kernel_rfl) (by kernel_rfl) (by kernel_rfl) (by exact fun _ _ _ h => h) (Or.inl ⟨by rfl, ?_⟩) hHeld ?_
        rotate_left 1
        · (intro w hSw; (try dsimp only at hSw); go_simp; (try with_reducible rfl))
        (try simp only [Act.put, List.setIfInBounds_toArray, List.set_cons_zero, List.set_cons_succ])
        refine wpAnyH_take (i := 9) (v := ?_) (by simp only [List.getElem?_toArray, List.getElem?_cons_succ, List.getElem?_cons_zero]; rfl) (by kernel_rfl) (by kernel_rfl) (by kernel_rfl) (by exact fun _ _ _ h => h) (Or.inl ⟨by rfl, ?_⟩) hHeld ?_
        rotate_left 1
        · (intro w hSw; (try dsimp only at hSw); go_simp; (try with_reducible rfl))
        (try simp only [Act.put, List.setIfInBounds_toArray, List.set_cons_zero, List.set_cons_succ])
        refine wpAnyH_take (i := 10) (v := ?_) (by simp only [List.getElem?_toArray, List.getElem?_cons_succ, List.getElem?_cons_zero]; rfl) (by kernel_rfl) (by kernel_rfl) (by kernel_rfl) (by exact fun _ _ _ h => h) (Or.inl ⟨by rfl, ?_⟩) hHeld ?_
        rotate_left 1
        · (intro w hSw; (try dsimp only at hSw); go_simp; (try with_reducible rfl))
        (try simp only [Act.put, List.setIfInBounds_toArray, List.set_cons_zero, List.set_cons_succ])
        refine wpAnyH_take (i := 11) (v := ?_) (by simp only [List.getElem?_toArray, List.getElem?_cons_succ, List.getElem?_cons_zero]; rfl) (by kernel_rfl) (by kernel_rfl) (by kernel_rfl) (by exact fun _ _ _ h => h) (Or.inl ⟨by rfl, ?_⟩) hHeld ?_
        rotate_left 1
        · (intro w hSw; (try dsimp only at hSw); go_simp; (try with_reducible rfl))
        (try simp only [Act.put, List.setIfInBounds_toArray, List.set_cons_zero, List.set_cons_succ])
        refine wpAnyH_take (i := 12) (v := ?_) (by simp only [List.getElem?_toArray, List.getElem?_cons_succ, List.getElem?_cons_zero]; rfl) (by kernel_rfl) (by kernel_rfl) (by kernel_rfl) (by exact fun _ _ _ h => h) (Or.inl ⟨by rfl, ?_⟩) hHeld ?_
        rotate_left 1
        · (intro w hSw; (try dsimp only at hSw); go_simp; (try with_reducible rfl))
        (try simp only [Act.put, List.setIfInBounds_toArray, List.set_cons_zero, List.set_cons_succ])
        refine wpAnyH_take (i := 13) (v := ?_) (by simp only [List.getElem?_toArray, List.getElem?_cons_succ, List.getElem?_cons_zero]; rfl) (by kernel_rfl) (by kernel_rfl) (by kernel_rfl) (by exact fun _ _ _ h => h) (Or.inl ⟨by rfl, ?_⟩) hHeld ?_
        rotate_left 1
        · (intro w hSw; (try dsimp only at hSw); go_simp; (try with_reducible rfl))
        (try simp only [Act.put, List.setIfInBounds_toArray, List.set_cons_zero, List.set_cons_succ])
        refine wpAnyH_take (i := 14) (v := ?_) (by simp only [List.getElem?_toArray, List.getElem?_cons_succ, List.getElem?_cons_zero]; rfl) (by kernel_rfl) (by kernel_rfl) (by kernel_rfl) (by exact fun _ _ _ h => h) (Or.inl ⟨by rfl, ?_⟩) hHeld ?_
        rotate_left 1
        · (intro w hSw; (try dsimp only at hSw); go_simp; (try with_reducible rfl))
        (try simp only [Act.put, List.setIfInBounds_toArray, List.set_cons_zero, List.set_cons_succ])
        refine wpAnyH_take (i := 15) (v := ?_) (by simp only [List.getElem?_toArray, List.getElem?_cons_succ, List.getElem?_cons_zero]; rfl) (by kernel_rfl) (by kernel_rfl) (by kernel_rfl) (by exact fun _ _ _ h => h) (Or.inl ⟨by rfl, ?_⟩) hHeld ?_
        rotate_left 1
        · (intro w hSw; (try dsimp only at hSw); go_simp; (try with_reducible rfl))
        (try simp only [Act.put, List.setIfInBounds_toArray, List.set_cons_zero, List.set_cons_succ])
        refine wpAnyH_take (i := 16) (v := ?_) (by simp only [List.getElem?_toArray, List.getElem?_cons_succ, List.getElem?_cons_zero]; rfl) (by kernel_rfl) (by kernel_rfl) (by kernel_rfl) (by exact fun _ _ _ h => h) (Or.inl ⟨by rfl, ?_⟩) hHeld ?_
        rotate_left 1
        · (intro w hSw; (try dsimp only at hSw); go_simp; (try with_reducible rfl))
        (try simp only [Act.put, List.setIfInBounds_toArray, List.set_cons_zero, List.set_cons_succ])
        refine wpAnyH_take (i := 17) (v := ?_) (by simp only [List.getElem?_toArray, List.getElem?_cons_succ, List.getElem?_cons_zero]; rfl) (by kernel_rfl) (by kernel_rfl) (by kernel_rfl) (by exact fun _ _ _ h => h) (Or.inl ⟨by rfl, ?_⟩) hHeld ?_
        rotate_left 1
        · (intro w hSw; (try dsimp only at hSw); go_simp; (try with_reducible rfl))
        (try simp only [Act.put, List.setIfInBounds_toArray, List.set_cons_zero, List.set_cons_succ])
        refine wpAnyH_take (i := 18) (v := ?_) (by simp only [List.getElem?_toArray, List.getElem?_cons_succ, List.getElem?_cons_zero]; rfl) (by kernel_rfl) (by kernel_rfl) (by kernel_rfl) (by exact fun _ _ _ h => h) (Or.inl ⟨by rfl, ?_⟩) hHeld ?_
        rotate_left 1
        · (intro w hSw; (try dsimp only at hSw); go_simp; (try with_reducible rfl))
        (try simp only [Act.put, List.setIfInBounds_toArray, List.set_cons_zero, List.set_cons_succ])
        refine wpAnyH_take (i := 19) (v := ?_) (by simp only [List.getElem?_toArray, List.getElem?_cons_succ, List.getElem?_cons_zero]; rfl) (by kernel_rfl) (by kernel_rfl) (by kernel_rfl) (by exact fun _ _ _ h => h) (Or.inl ⟨by rfl, ?_⟩) hHeld ?_
        rotate_left 1
        · (intro w hSw; (try dsimp only at hSw); go_simp; (try with_reducible rfl))
        (try simp only [Act.put, List.setIfInBounds_toArray, List.set_cons_zero, List.set_cons_succ])
        refine wpAnyH_take (i := 20) (v := ?_) (by simp only [List.getElem?_toArray, List.getElem?_cons_succ, List.getElem?_cons_zero]; rfl) (by kernel_rfl) (by kernel_rfl) (by kernel_rfl) (by exact fun _ _ _ h => h) (Or.inl ⟨by rfl, ?_⟩) hHeld ?_
        rotate_left 1
        · (intro w hSw; (try dsimp only at hSw); go_simp; (try with_reducible rfl))
        (try simp only [Act.put, List.setIfInBounds_toArray, List.set_cons_zero, List.set_cons_succ])
        refine wpAnyH_take (i := 21) (v := ?_) (by simp only [List.getElem?_toArray, List.getElem?_cons_succ, List.getElem?_cons_zero]; rfl) (by kernel_rfl) (by kernel_rfl) (by kernel_rfl) (by exact fun _ _ _ h => h) (Or.inl ⟨by rfl, ?_⟩) hHeld ?_
        rotate_left 1
        · (intro w hSw; (try dsimp only at hSw); go_simp; (try with_reducible rfl))
        (try simp only [Act.put, List.setIfInBounds_toArray, List.set_cons_zero, List.set_cons_succ])
        refine wpAnyH_take (i := 22) (v := ?_) (by simp only [List.getElem?_toArray, List.getElem?_cons_succ, List.getElem?_cons_zero]; rfl) (by kernel_rfl) (by kernel_rfl) (by kernel_rfl) (by exact fun _ _ _ h => h) (Or.inl ⟨by rfl, ?_⟩) hHeld ?_
        rotate_left 1
        · (intro w hSw; (try dsimp only at hSw); go_simp; (try with_reducible rfl))
        (try simp only [Act.put, List.setIfInBounds_toArray, List.set_cons_zero, List.set_cons_succ])
        refine wpAnyH_take (i := 23) (v := ?_) (by simp only [List.getElem?_toArray, List.getElem?_cons_succ, List.getElem?_cons_zero]; rfl) (by kernel_rfl) (by kernel_rfl) (by kernel_rfl) (by exact fun _ _ _ h => h) (Or.inl ⟨by rfl, ?_⟩) hHeld ?_
        rotate_left 1
        · (intro w hSw; (try dsimp only at hSw); go_simp; (try with_reducible rfl))
        (try simp only [Act.put, List.setIfInBounds_toArray, List.set_cons_zero, List.set_cons_succ])
        refine wpAnyH_take (i := 24) (v := ?_) (by simp only [List.getElem?_toArray, List.getElem?_cons_succ, List.getElem?_cons_zero]; rfl) (by kernel_rfl) (by kernel_rfl) (by kernel_rfl) (by exact fun _ _ _ h => h) (Or.inl ⟨by rfl, ?_⟩) hHeld ?_
        rotate_left 1
        · (intro w hSw; (try dsimp only at hSw); go_simp; (try with_reducible rfl))
        (try simp only [Act.put, List.setIfInBounds_toArray, List.set_cons_zero, List.set_cons_succ])
        refine wpAnyH_take (i := 25) (v := ?_) (by simp only [List.getElem?_toArray, List.getElem?_cons_succ, List.getElem?_cons_zero]; rfl) (by kernel_rfl) (by kernel_rfl) (by kernel_rfl) (by exact fun _ _ _ h => h) (Or.inl ⟨by rfl, ?_⟩) hHeld ?_
        rotate_left 1
        · (intro w hSw; (try dsimp only at hSw); go_simp; (try with_reducible rfl))
        (try simp only [Act.put, List.setIfInBounds_toArray, List.set_cons_zero, List.set_cons_succ])
        refine wpAnyH_take (i := 26) (v := ?_) (by simp only [List.getElem?_toArray, List.getElem?_cons_succ, List.getElem?_cons_zero]; rfl) (by kernel_rfl) (by kernel_rfl) (by kernel_rfl) (by exact fun _ _ _ h => h) (Or.inl ⟨by rfl, ?_⟩) hHeld ?_
        rotate_left 1
        · (intro w hSw; (try dsimp only at hSw); go_simp; (try with_reducible rfl))
        (try simp only [Act.put, List.setIfInBounds_toArray, List.set_cons_zero, List.set_cons_succ])
        refine wpAnyH_take (i := 27) (v := ?_) (by simp only [List.getElem?_toArray, List.getElem?_cons_succ, List.getElem?_cons_zero]; rfl) (by kernel_rfl) (by kernel_rfl) (by kernel_rfl) (by exact fun _ _ _ h => h) (Or.inl ⟨by rfl, ?_⟩) hHeld ?_
        rotate_left 1
        · (intro w hSw; (try dsimp only at hSw); go_simp; (try with_reducible rfl))
        (try simp only [Act.put, List.setIfInBounds_toArray, List.set_cons_zero, List.set_cons_succ])
        refine wpAnyH_done (by kernel_rfl) ?_ _
        go_wp2
        go_ret
        exact ⟨ret_int (by rw [HN.out]), hb.drew⟩
    · have HN := Lib.hid (show runF W x r + 1 = j by
        obtain ⟨y', hy', e⟩ := H.out
        rw [e, List.drop_eq_nil_of_le (by rw [HL.out]; omega)]
        simp [runF]
        omega)
      have hd : decide ((j : Int) < (n : Int)) = false := by simp; omega
      have hd' : decide (j < n) = false := by simp [hlt]
      go_wp2
      refine wp_region_held_drew (S := fun _ => True) (by kernel_rfl) ?_ (fun hHeld => ?_)
      · exact trivial
      refine wpAnyH_take (i := 0) (v := ?_) (by simp only [List.getElem?_toArray, List.getElem?_cons_succ, List.getElem?_cons_zero]; rfl) (by kernel_rfl) (by kernel_rfl) (by kernel_rfl) (by exact fun _ _ _ h => h) (Or.inl ⟨by rfl, ?_⟩) hHeld ?_
      rotate_left 1
      · (intro w hSw; (try dsimp only at hSw); go_simp; (try with_reducible rfl))
      (try simp only [Act.put, List.setIfInBounds_toArray, List.set_cons_zero, List.set_cons_succ])
      refine wpAnyH_take (i := 1) (v := ?_) (by simp only [List.getElem?_toArray, List.getElem?_cons_succ, List.getElem?_cons_zero]; rfl) (by kernel_rfl) (by kernel_rfl) (by kernel_rfl) (by exact fun _ _ _ h => h) (Or.inl ⟨by rfl, ?_⟩) hHeld ?_
      rotate_left 1
      · (intro w hSw; (try dsimp only at hSw); go_simp; (try with_reducible rfl))
      (try simp only [Act.put, List.setIfInBounds_toArray, List.set_cons_zero, List.set_cons_succ])
      refine wpAnyH_take (i := 2) (v := ?_) (by simp only [List.getElem?_toArray, List.getElem?_cons_succ, List.getElem?_cons_zero]; rfl) (by kernel_rfl) (by kernel_rfl) (by kernel_rfl) (by exact fun _ _ _ h => h) (Or.inl ⟨by rfl, ?_⟩) hHeld ?_
      rotate_left 1
      · (intro w hSw; (try dsimp only at hSw); go_simp; (try with_reducible rfl))
      (try simp only [Act.put, List.setIfInBounds_toArray, List.set_cons_zero, List.set_cons_succ])
      refine wpAnyH_take (i := 3) (v := ?_) (by simp only [List.getElem?_toArray, List.getElem?_cons_succ, List.getElem?_cons_zero]; rfl) (by kernel_rfl) (by kernel_rfl) (by kernel_rfl) (by exact fun _ _ _ h => h) (Or.inl ⟨by rfl, ?_⟩) hHeld ?_
      rotate_left 1
      · (intro w hSw; (try dsimp only at hSw); go_simp; (try with_reducible rfl))
      (try simp only [Act.put, List.setIfInBounds_toArray, List.set_cons_zero, List.set_cons_succ])
      refine wpAnyH_take (i := 4) (v := ?_) (by simp only [List.getElem?_toArray, List.getElem?_cons_succ, List.getElem?_cons_zero]; rfl) (by kernel_rfl) (by kernel_rfl) (by kernel_rfl) (by exact fun _ _ _ h => h) (Or.inl ⟨by rfl, ?_⟩) hHeld ?_
      rotate_left 1
      · (intro w hSw; (try dsimp only at hSw); go_simp; (try with_reducible rfl))
      (try simp only [Act.put, List.setIfInBounds_toArray, List.set_cons_zero, List.set_cons_succ])
      refine takeU (i := 5) (by simp only [List.getElem?_toArray, List.getElem?_cons_succ, List.getElem?_cons_zero]; rfl) (by kernel_rfl) (by kernel_rfl) (by kernel_rfl) (by exact fun _ _ _ h => h) (by rfl) hHeld ?_
      (try simp only [Act.put, List.setIfInBounds_toArray, List.set_cons_zero, List.set_cons_succ])
      refine takeU (i := 6) (by simp only [List.getElem?_toArray, List.getElem?_cons_succ, List.getElem?_cons_zero]; rfl) (by kernel_rfl) (by kernel_rfl) (by kernel_rfl) (by exact fun _ _ _ h => h) (by rfl) hHeld ?_
      (try simp only [Act.put, List.setIfInBounds_toArray, List.set_cons_zero, List.set_cons_succ])
      refine takeU (i := 7) (by simp only [List.getElem?_toArray, List.getElem?_cons_succ, List.getElem?_cons_zero]; rfl) (by kernel_rfl) (by kernel_rfl) (by kernel_rfl) (by exact fun _ _ _ h => h) (by rfl) hHeld ?_
      (try simp only [Act.put, List.setIfInBounds_toArray, List.set_cons_zero, List.set_cons_succ])
      refine takeU (i := 8) (by simp only [List.getElem?_toArray, List.getElem?_cons_succ, List.getElem?_cons_zero]; rfl) (by kernel_rfl) (by kernel_rfl) (by kernel_rfl) (by exact fun _ _ _ h => h) (by rfl) hHeld ?_
      (try simp only [Act.put, List.setIfInBounds_toArray, List.set_cons_zero, List.set_cons_succ])
      refine takeU (i := 9) (by simp only [List.getElem?_toArray, List.getElem?_cons_succ, List.getElem?_cons_zero]; rfl) (by kernel_rfl) (by kernel_rfl) (by kernel_rfl) (by exact fun _ _ _ h => h) (by rfl) hHeld ?_
      (try simp only [Act.put, List.setIfInBounds_toArray, List.set_cons_zero, List.set_cons_succ])
      refine takeU (i := 10) (by simp only [List.getElem?_toArray, List.getElem?_cons_succ, List.getElem?_cons_zero]; rfl) (by kernel_rfl) (by kernel_rfl) (by kernel_rfl) (by exact fun _ _ _ h => h) (by rfl) hHeld ?_
      (try simp only [Act.put, List.setIfInBounds_toArray, List.set_cons_zero, List.set_cons_succ])
      refine takeU (i := 11) (by simp only [List.getElem?_toArray, List.getElem?_cons_succ, List.getElem?_cons_zero]; rfl) (by kernel_rfl) (by kernel_rfl) (by kernel_rfl) (by exact fun _ _ _ h => h) (by rfl) hHeld ?_
      (try simp only [Act.put, List.setIfInBounds_toArray, List.set_cons_zero, List.set_cons_succ])
      refine takeU (i := 12) (by simp only [List.getElem?_toArray, List.getElem?_cons_succ, List.getElem?_cons_zero]; rfl) (by kernel_rfl) (by kernel_rfl) (by kernel_rfl) (by exact fun _ _ _ h => h) (by rfl) hHeld ?_
      (try simp only [Act.put, List.setIfInBounds_toArray, List.set_cons_zero, List.set_cons_succ])
      refine takeU (i := 13) (by simp only [List.getElem?_toArray, List.getElem?_cons_succ, List.getElem?_cons_zero]; rfl) (by kernel_rfl) (by kernel_rfl) (by kernel_rfl) (by exact fun _ _ _ h => h) (by rfl) hHeld ?_
      (try simp only [Act.put, List.setIfInBounds_toArray, List.set_cons_zero, List.set_cons_succ])
      refine takeU (i := 14) (by simp only [List.getElem?_toArray, List.getElem?_cons_succ, List.getElem?_cons_zero]; rfl) (by kernel_rfl) (by kernel_rfl) (by kernel_rfl) (by exact fun _ _ _ h => h) (by rfl) hHeld ?_
      (try simp only [Act.put, List.setIfInBounds_toArray, List.set_cons_zero, List.set_cons_succ])
      refine takeU (i := 15) (by simp only [List.getElem?_toArray, List.getElem?_cons_succ, List.getElem?_cons_zero]; rfl) (by kernel_rfl) (by kernel_rfl) (by kernel_rfl) (by exact fun _ _ _ h => h) (by rfl) hHeld ?_
      (try simp only [Act.put, List.setIfInBounds_toArray, List.set_cons_zero, List.set_cons_succ])
      refine takeU (i := 16) (by simp only [List.getElem?_toArray, List.getElem?_cons_succ, List.getElem?_cons_zero]; rfl) (by kernel_rfl) (by kernel_rfl) (by kernel_rfl) (by exact fun _ _ _ h => h) (by rfl) hHeld ?_
      (try simp only [Act.put, List.setIfInBounds_toArray, List.set_cons_zero, List.set_cons_succ])
      refine takeU (i := 17) (by simp only [List.getElem?_toArray, List.getElem?_cons_succ, List.getElem?_cons_zero]; rfl) (by kernel_rfl) (by kernel_rfl) (by kernel_rfl) (by exact fun _ _ _ h => h) (by rfl) hHeld ?_
      (try simp only [Act.put, List.setIfInBounds_toArray, List.set_cons_zero, List.set_cons_succ])
      refine takeU (i := 18) (by simp only [List.getElem?_toArray, List.getElem?_cons_succ, List.getElem?_cons_zero]; rfl) (by kernel_rfl) (by kernel_rfl) (by kernel_rfl) (by exact fun _ _ _ h => h) (by rfl) hHeld ?_
      (try simp only [Act.put, List.setIfInBounds_toArray, List.set_cons_zero, List.set_cons_succ])
      refine takeU (i := 19) (by simp only [List.getElem?_toArray, List.getElem?_cons_succ, List.getElem?_cons_zero]; rfl) (by kernel_rfl) (by kernel_rfl) (by kernel_rfl) (by exact fun _ _ _ h => h) (by rfl) hHeld ?_
      (try simp only [Act.put, List.setIfInBounds_toArray, List.set_cons_zero, List.set_cons_succ])
      refine takeU (i := 20) (by simp only [List.getElem?_toArray, List.getElem?_cons_succ, List.getElem?_cons_zero]; rfl) (by kernel_rfl) (by kernel_rfl) (by kernel_rfl) (by exact fun _ _ _ h => h) (by rfl) hHeld ?_
      (try simp only [Act.put, List.setIfInBounds_toArray, List.set_cons_zero, List.set_cons_succ])
      refine takeU (i := 21) (by simp only [List.getElem?_toArray, List.getElem?_cons_succ, List.getElem?_cons_zero]; rfl) (by kernel_rfl) (by kernel_rfl) (by kernel_rfl) (by exact fun _ _ _ h => h) (by rfl) hHeld ?_
      (try simp only [Act.put, List.setIfInBounds_toArray, List.set_cons_zero, List.set_cons_succ])
      refine takeU (i := 22) (by simp only [List.getElem?_toArray, List.getElem?_cons_succ, List.getElem?_cons_zero]; rfl) (by kernel_rfl) (by kernel_rfl) (by kernel_rfl) (by exact fun _ _ _ h => h) (by rfl) hHeld ?_
      (try simp only [Act.put, List.setIfInBounds_toArray, List.set_cons_zero, List.set_cons_succ])
      refine takeU (i := 23) (by simp only [List.getElem?_toArray, List.getElem?_cons_succ, List.getElem?_cons_zero]; rfl) (by kernel_rfl) (by kernel_rfl) (by kernel_rfl) (by exact fun _ _ _ h => h) (by rfl) hHeld ?_
      (try simp only [Act.put, List.setIfInBounds_toArray, List.set_cons_zero, List.set_cons_succ])
      refine takeU (i := 24) (by simp only [List.getElem?_toArray, List.getElem?_cons_succ, List.getElem?_cons_zero]; rfl) (by kernel_rfl) (by kernel_rfl) (by kernel_rfl) (by exact fun _ _ _ h => h) (by rfl) hHeld ?_
      (try simp only [Act.put, List.setIfInBounds_toArray, List.set_cons_zero, List.set_cons_succ])
      refine takeU (i := 25) (by simp only [List.getElem?_toArray, List.getElem?_cons_succ, List.getElem?_cons_zero]; rfl) (by kernel_rfl) (by kernel_rfl) (by kernel_rfl) (by exact fun _ _ _ h => h) (by rfl) hHeld ?_
      (try simp only [Act.put, List.setIfInBounds_toArray, List.set_cons_zero, List.set_cons_succ])
      refine takeU (i := 26) (by simp only [List.getElem?_toArray, List.getElem?_cons_succ, List.getElem?_cons_zero]; rfl) (by kernel_rfl) (by kernel_rfl) (by kernel_rfl) (by exact fun _ _ _ h => h) (by rfl) hHeld ?_
      (try simp only [Act.put, List.setIfInBounds_toArray, List.set_cons_zero, List.set_cons_succ])
      refine wpAnyH_take (i := 27) (v := ?_) (by simp only [List.getElem?_toArray, List.getElem?_cons_succ, List.getElem?_cons_zero]; rfl) (by kernel_rfl) (by kernel_rfl) (by kernel_rfl) (by exact fun _ _ _ h => h) (Or.inl ⟨by rfl, ?_⟩) hHeld ?_
      rotate_left 1
      · (intro w hSw; (try dsimp only at hSw); go_simp; (try with_reducible rfl))
      (try simp only [Act.put, List.setIfInBounds_toArray, List.set_cons_zero, List.set_cons_succ])
      refine wpAnyH_done (by kernel_rfl) ?_ _
      go_wp2
      go_ret
      exact ⟨ret_int (by rw [HN.out]), hb.drew⟩

end Go.Proofs.YtkamenidgkjodaaGreatDoor
