/-
  Groups turned round: the program's turnedBack and BackGroups.
-/
import Derived.Test.YtkamenidgkjodaaGreatDoorQbUPairs
import Derived.Deep.DeepCutAuto
set_option linter.unusedSimpArgs false
set_option linter.unusedVariables false
namespace Go.Proofs.YtkamenidgkjodaaGreatDoor
open Go.RowKit Go.ChangeShapes Go.WideShapes M

structure Bk (w : World) : Prop where
  b1 : w.cell? ⟨1, 1, none⟩ = some (.int .i64 1)
  b2 : w.cell? ⟨1, 2, none⟩ = some (.int .i64 3)
  b3 : w.cell? ⟨1, 3, none⟩ = some (.int .i64 2)
theorem Bk.below {w w' : World} (h : Bk w) (hb : Below w.heap.size w w') : Bk w' := ⟨cell_keep hb h.b1, cell_keep hb h.b2, cell_keep hb h.b3⟩
theorem Bk.at_ {w : World} (h : Bk w) {k : Nat} (h1 : 1 ≤ k) (h3 : k ≤ 3) : w.cell? ⟨1, k, none⟩ = some (.int .i64 (swapK k)) := by
  rcases (by omega : k = 1 ∨ k = 2 ∨ k = 3) with rfl | rfl | rfl
  · exact h.b1
  · exact h.b2
  · exact h.b3

theorem step_rw {w : World} {ops : Array Oper} {o : Oper} {a : Act} {K : Act → World → Prop} {Q : Exit → Act → World → Prop} {E : Prop} (s y : Operand) (base : Nat) (v : Value) (l : List Rw) (hown : OwnRw w base v l) (x : Rw) (hx : RwOk x)
    (gb : Nat) (h0 : w.cell? ⟨gb, 0, none⟩ = some (.int .i64 x.kind)) (h1 : w.cell? ⟨gb, 1, none⟩ = some (.string x.line)) (hbound : l.length ≤ 1048576) (hbase : base ≤ w.heap.size)
    (hgd : Region.wanted o (yielded ops a.tmps) = true) (ho : o.op = .call { callee := .builtin .append, args := #[s, y], argTypes := #[58, 58] }) (hs : a.eval s = v) (hy : a.eval y = .slice (some ⟨gb, 0, none⟩) 1 1)
    (h : ∀ v' w', OwnRw w' base v' (l ++ [x]) → w.grownBy w' v.ownBlock → (v'.ownBlock = v.ownBlock ∨ v'.ownBlock = some w.heap.size) → K (a.put o.dst v') w') : if Region.wanted o (yielded ops a.tmps) = true then Oper.wp Tryz.prog o a w K Q else E := by
  obtain ⟨i, q1, q2, q3, q4⟩ := info_parts rw_info
  exact step_app_R Tryz.underlying58 q1 q2 q3 q4 (by simp [Value.cells]) (by omega) s y base v (l.map rwRow) hown.own (rwRow x) rfl ⟨rfl, rfl, trivial⟩ (by simp [rwRow, D.blocksL, D.blocks]) (fun g hg => by simp [rwRow, D.blocksL, D.blocks] at hg) ⟨gb, 0, none⟩ 1 (rwRow_cells h0 h1) (by rw [List.length_map]; exact hbound) (by omega) hbase hgd ho hs hy (fun v' w' o' => h v' w' (hown.snoc hx o'))

structure TbSt (w wx : World) (R G B : Nat) (F T : Int) (v : Value) (out : List Rw) : Prop where
  low : Below w.heap.size w wx
  num : w.heap.size ≤ R ∧ R < B ∧ w.heap.size ≤ G ∧ G < B ∧ R ≠ G ∧ B ≤ wx.heap.size
  res : wx.heap[R]? = some (.cells #[.int .i64 0, .int .i64 0, .slice none 0 0] 60 (0, 0))
  grp : wx.heap[G]? = some (.cells #[.int .i64 F, .int .i64 T, v] 60 (0, 0))
  own : OwnRw wx B v out
section
variable {w wx w2 w3 : World} {R G B : Nat} {F T : Int} {v v3 : Value} {out out' : List Rw}
theorem TbSt.below (h : TbSt w wx R G B F T v out) (hb : Below wx.heap.size wx w2) : TbSt w w2 R G B F T v out := by
  obtain ⟨n1, n2, n3, n4, n5, n6⟩ := h.num
  have := hb.size
  exact ⟨h.low.next hb, ⟨n1, n2, n3, n4, n5, by omega⟩, (hb.block _ (by omega)).trans h.res, (hb.block _ (by omega)).trans h.grp, h.own.below hb⟩
theorem TbSt.rows (h : TbSt w wx R G B F T v out) : wx.cell? ⟨G, 2, none⟩ = some v ∧ ∀ j, wx.frozen? ⟨G, j, none⟩ = false :=
  ⟨by simp [World.cell?, h.grp], fun j => by simp [World.frozen?, h.grp]⟩
theorem TbSt.grown (h : TbSt w wx R G B F T v out) (hg : wx.grownBy w2 v.ownBlock) : w2.heap[R]? = some (.cells #[.int .i64 0, .int .i64 0, .slice none 0 0] 60 (0, 0)) ∧ w2.heap[G]? = some (.cells #[.int .i64 F, .int .i64 T, v] 60 (0, 0)) ∧ Below w.heap.size w w2 := by
  obtain ⟨n1, n2, n3, n4, n5, n6⟩ := h.num
  have hne : ∀ k, k < B → v.ownBlock ≠ some k := fun k hk e => by have := (h.own.lt e).1; omega
  exact ⟨(hg.block _ (by omega) (fun e => hne _ n2 e.symm)).trans h.res, (hg.block _ (by omega) (fun e => hne _ n4 e.symm)).trans h.grp, Below.grown h.low hg (by omega) (fun b e => by have := (h.own.lt e).1; omega)⟩
theorem TbSt.stored (h : TbSt w wx R G B F T v out) (hg : wx.grownBy w2 v.ownBlock) (ho : OwnRw w2 B v3 out') : TbSt w (w2.setCell ⟨G, 2, none⟩ v3) R G B F T v3 out' := by
  obtain ⟨n1, n2, n3, n4, n5, n6⟩ := h.num
  obtain ⟨g1, g2, g3⟩ := h.grown hg
  have hz := hg.size
  refine ⟨g3.setCell n3 _, ⟨n1, n2, n3, n4, n5, by simp; omega⟩, ?_, ?_, ho.wrote (Wrote.set (fun i => i = G) w2 _ _ rfl) (fun i e e2 => by have := (ho.lt e).1; omega)⟩
  · rw [Below.heap_setCell _ _ _ _ (by simpa using n5)]; exact g1
  · simp [World.setCell, Array.getElem?_modify, g2]
end
theorem turn_take {rows : List Rw} {k : Nat} {x : Rw} (h : rows[k]? = some x) : turnR (rows.take (k + 1)) = turnR (rows.take k) ++ [⟨swapK x.kind, x.line⟩] := by
  rw [take_snoc h]; simp [turnR]

set_option maxHeartbeats 4000000 in
set_option maxRecDepth 100000 in
theorem turnedBack_any (b off : Nat) (a : Option Addr) (n c : Nat) (x : Gp) (w : World) (d0 : w.cell? ⟨b, off, none⟩ = some (.int .i64 x.at_)) (d1 : w.cell? ⟨b, off + 1, none⟩ = some (.int .i64 x.to_)) (d2 : w.cell? ⟨b, off + 2, none⟩ = some (.slice a n c)) (hl : Rws w a n x.rows) (hx : groupB x = true) (hbk : Bk w) :
    Calls Tryz.prog 62 #[.pointer (some ⟨b, off, none⟩)] w fun e w' => ∃ u, e = .returned (.agg #[.int .i64 x.to_, .int .i64 x.at_, u]) ∧ OwnRw w' w.heap.size u (backRF [] x.rows) ∧ Below w.heap.size w w' := by
  obtain ⟨hn80, _, _, _, _, h3, h2⟩ := groupB_len hx
  have HK := Lib.hid (show kindOk3 x.rows from group_kinds hx)
  have HGO := Lib.hid (show goodB (lw 3 x.rows) = true by unfold groupB standB at hx; simp only [Bool.and_eq_true] at hx; exact hx.1.2.1.1)
  have HL := Lib.hid hl.len
  have hn : n ≤ 80 := by rw [← hl.len]; exact hn80
  have HR := Lib.hid hl
  have HBK := Lib.hid hbk
  have HTR := Lib.hid (turned_rows HK.out)
  obtain ⟨F, HF⟩ : ∃ F, Hid (x.to_ = F) := ⟨_, rfl⟩
  obtain ⟨T, HT⟩ : ∃ T, Hid (x.at_ = T) := ⟨_, rfl⟩
  rw [HT.out] at d0
  rw [HF.out] at d1
  rw [HT.out, HF.out]
  obtain ⟨rows, HRW⟩ : ∃ rows, Hid (x.rows = rows) := ⟨_, rfl⟩
  rw [HRW.out] at HK HL HR HTR HGO h3 h2 ⊢
  obtain ⟨W1, HW1⟩ : ∃ W1, Hid (W1 = w.alloc (.cells #[.int .i64 0, .int .i64 0, .slice none 0 0] 60)) := ⟨_, rfl⟩
  have HB1 := Lib.hid (show Below w.heap.size w W1 by rw [HW1.out]; exact below_alloc _ _)
  have HS1 := Lib.hid (show W1.heap.size = w.heap.size + 1 by rw [HW1.out]; simp)
  have e0 := cell_keep HB1.out d0
  have e1 := cell_keep HB1.out d1
  have HD2 := Lib.hid d2
  clear hx hn80 hl hbk d0 d1 d2
  go_enter Tryz.func62, Tryz.ntmps62
  go_wp2
  rw [← HW1.out]
  have e0' := fun o => cell_keep (below_alloc W1 o) e0
  have e1' := fun o => cell_keep (below_alloc W1 o) e1
  obtain ⟨W3, HW3⟩ : ∃ W3, Hid (W3 = (W1.alloc (.cells #[.int .i64 F, .int .i64 T, .slice none 0 0] 60)).drew) := ⟨_, rfl⟩
  have HTB := Lib.hid (show TbSt w W3 w.heap.size (w.heap.size + 1) (w.heap.size + 2) F T (.slice none 0 0) [] by
    refine ⟨?_, ?_, ?_, ?_, OwnRw.nil_⟩
    · rw [HW3.out]; exact (HB1.out.next (below_alloc _ _)).drew
    · refine ⟨by omega, by omega, by omega, by omega, by omega, ?_⟩
      rw [HW3.out]
      show _ ≤ (W1.alloc _).heap.size
      simp [HS1.out]
    · rw [HW3.out]
      show (W1.alloc _).heap[_]? = _
      rw [Below.heap_alloc _ _ _ (by rw [HS1.out]; omega), HW1.out]; exact heap_at rfl
    · rw [HW3.out]
      show (W1.alloc _).heap[_]? = _
      rw [← HS1.out]; exact heap_at rfl)
  go_cut [3] (fun p wx => p = .pointer (some ⟨w.heap.size + 1, 0, none⟩) ∧ wx = W3)
  case first =>
    go_region_law (fail)
    all_goals go_wp2
    all_goals go_meet
    all_goals (rw [HW3.out, ← HS1.out]; exact ⟨rfl, rfl⟩)
  case rest =>
    obtain ⟨rfl, rfl⟩ := hcut
    clear e0 e1 e0' e1' HW3
    have d2 := cell_keep HTB.out.low HD2.out
    obtain ⟨G, HG⟩ : ∃ G, Hid (w.heap.size + 1 = G) := ⟨_, rfl⟩
    obtain ⟨B, HBB⟩ : ∃ B, Hid (w.heap.size + 2 = B) := ⟨_, rfl⟩
    obtain ⟨R, HRR⟩ : ∃ R, Hid (w.heap.size = R) := ⟨_, rfl⟩
    rw [HG.out, HBB.out] at HTB
    have HTB : Hid (TbSt w wc R G B F T (.slice none 0 0) []) := Lib.hid (by have := HTB.out; rw [HRR.out] at this; exact this)
    rw [HG.out]
    go_wp2
    go_loopw [20] (fun i w' => ∃ (v : Value) (k : Nat), i = .int .i64 (k : Int) ∧ k ≤ n ∧ Hid (TbSt w w' R G B F T v (turnR (rows.take k)))) (fun i _ => n - (intOf i).toNat)
    case atStart => exact ⟨_, 0, rfl, by omega, HTB.out⟩
    case round =>
      obtain ⟨v, k, rfl, hk, HS⟩ := hrel
      have hb := HS.out.low
      by_cases hlt : k < n
      · obtain ⟨b', off', y, rfl, hy, c0, c1, hok⟩ := (HR.out.below hb).at_ hlt
        obtain ⟨k1, k3⟩ := HK.out y (List.mem_of_getElem? hy)
        obtain ⟨kk, hkk⟩ := Int.eq_ofNat_of_zero_le (show 0 ≤ y.kind by omega)
        have HN := Lib.hid (turn_take hy)
        have hlen : (turnR (rows.take k)).length ≤ 80 := by simp [turnR]; omega
        have hyl := hok.line
        rw [hkk] at c0
        obtain ⟨W, HW⟩ : ∃ W, Hid (W = wr.alloc (.cells #[.int .i64 (kk : Int), .string y.line] 62)) := ⟨_, rfl⟩
        have HB := Lib.hid (show Below wr.heap.size wr W by rw [HW.out]; exact below_alloc _ _)
        have f0 : W.cell? ⟨wr.heap.size, 0, none⟩ = some (.int .i64 (kk : Int)) := by rw [HW.out]; simp
        have f1 : W.cell? ⟨wr.heap.size, 1, none⟩ = some (.string y.line) := by rw [HW.out]; simp
        have f2 : W.cell? ⟨1, kk, none⟩ = some (.int .i64 (swapK kk)) := cell_keep HB.out ((HBK.out.below hb).at_ (by omega) (by omega))
        have hkk5 : (kk : Int) < 4 := by omega
        have HSW := Lib.hid (HS.out.below HB.out)
        have f3 := HSW.out.rows.1
        have f4 := HSW.out.rows.2
        have f3' := fun o => cell_keep (below_alloc W o) f3
        have hwz := Lib.hid HSW.out.num
        obtain ⟨K2, HK2⟩ : ∃ K2, Hid (swapK kk = K2) := ⟨_, rfl⟩
        have hK2 : 1 ≤ K2 ∧ K2 ≤ 3 := by rw [← HK2.out]; unfold swapK; repeat' split
                                         all_goals omega
        rw [HK2.out] at f2
        rw [hkk, HK2.out] at HN
        clear hy hkk
        go_wp2
        rw [← HW.out]
        have HS2 := Lib.hid ((HSW.out.below (below_alloc W (.cells #[.int .i64 K2, .string y.line] 62))).below (Below.refl _ _).drew)
        go_region_law (first
          | (go_loud
              (refine step_rw (.tmp 25) (.tmp 33) B v (turnR (rows.take k)) HS2.out.own ⟨K2, y.line⟩ ⟨⟨by dsimp only; omega, by dsimp only; omega⟩, hyl⟩ W.heap.size (by simp) (by simp) (by omega) HS2.out.num.2.2.2.2.2 rfl rfl rfl rfl ?_
               intro v7 w7 o7 g7 p7
               obtain ⟨q7, Hq7⟩ : ∃ q, Hid ((turnR (rows.take k) ++ [(⟨K2, y.line⟩ : Rw)]).length = q) := ⟨_, rfl⟩
               obtain ⟨A7, k7, rfl, h71, _⟩ := o7.form Hq7.out
               have HST := Lib.hid (HS2.out.stored g7 o7)
               have c7 := (HS2.out.grown g7).2.1
               have f7 : ∀ j, w7.frozen? ⟨G, j, none⟩ = false := fun j => by simp [World.frozen?, c7]
               have c72 : w7.cell? ⟨G, 2, none⟩ = some v := by simp [World.cell?, c7]))
          | fail)
        all_goals go_wp2
        all_goals go_roundw
        all_goals first | (case measure => simp [intOf]; omega) | skip
        all_goals exact ⟨_, k + 1, by go_num, by omega, by rw [HN.out]; exact HST.out⟩
      · have hf := Lib.hid (show rows.take k = rows from List.take_of_length_le (by rw [HL.out]; omega))
        have HSF : Hid (TbSt w wr R G B F T v (turnR rows)) := Lib.hid (by have := HS.out; rw [hf.out] at this; exact this)
        obtain ⟨q, Hq⟩ : ∃ q, Hid ((turnR rows).length = q) := ⟨_, rfl⟩
        have hq : q = n := by rw [← Hq.out, ← HL.out]; simp [turnR]
        obtain ⟨vA, vc, rfl, hv1, _⟩ := HSF.out.own.form Hq.out
        have HNUM := Lib.hid HSF.out.num
        have g2 := HSF.out.rows.1
        have HTK := Lib.hid (turn_kinds HK.out)
        obtain ⟨m3, H3⟩ : ∃ m, Hid ((lw 3 (turnR rows)).length = m) := ⟨_, rfl⟩
        have hm3 : m3 ≤ 40 := by rw [← H3.out, turn_lw3 HK.out]; exact h2
        have HGL := Lib.hid (show linesB (lw 2 (turnR rows)) = true by rw [turn_lw2 HK.out]; exact goodB_lines HGO.out)
        have hm2 : (lw 2 (turnR rows)).length ≤ 40 := by rw [turn_lw2 HK.out]; exact h3
        obtain ⟨hl, HHL⟩ : ∃ m, Hid ((bareH (turnR rows)).length = m) := ⟨_, rfl⟩
        go_wp2_with fail
        refine (oldIn_any G 0 vA q vc (turnR rows) _ g2 HSF.out.own.rws (by omega)).mono ?_
        rintro e w4 ⟨v4, rfl, o4, b4⟩
        obtain ⟨A4, k4, rfl, hk4, _⟩ := o4.form H3.out
        have S4 := Lib.hid (HSF.out.below b4)
        go_wp2_with fail
        refine (hunksIn_any G 0 vA q vc (turnR rows) _ S4.out.rows.1 S4.out.own.rws HTK.out (by rw [H3.out]; exact hm3) hm2 (by omega)).mono ?_
        rintro e w5 ⟨v5, vs5, rfl, o5, b5⟩
        obtain ⟨A5, k5, rfl, hk5, _⟩ := o5.form HHL.out
        have S5 := Lib.hid (S4.out.below b5)
        go_wp2_with fail
        refine (rowsOf_any A4 m3 k4 (lw 3 (turnR rows)) A5 hl k5 (bareH (turnR rows)) 0 _ (o4.strs.below b5) hk4 o5.hks (by rw [← H3.out]; exact ⟨-1, bare_rise HTK.out (HGL.out), by omega⟩) (Nat.zero_le _) hm3 (by rw [← HHL.out]; have := runs_len (turnR rows) 0 none; unfold bareH; rw [Hq.out] at this; simp at this; omega)).mono ?_
        rintro e w6 ⟨v6, rfl, o6, b6⟩
        rw [HTR.out] at o6
        obtain ⟨ul, HUL⟩ : ∃ m, Hid ((backRF [] rows).length = m) := ⟨_, rfl⟩
        obtain ⟨A6, k6, rfl, hk6, _⟩ := o6.form HUL.out
        have S6 := Lib.hid (S5.out.below b6)
        have hgrp := S6.out.grp
        have hres := S6.out.res
        have t0 : w6.cell? ⟨G, 0, none⟩ = some (.int .i64 F) := by simp [World.cell?, hgrp]
        have t1 : w6.cell? ⟨G, 1, none⟩ = some (.int .i64 T) := by simp [World.cell?, hgrp]
        have t2 : w6.cell? ⟨G, 2, none⟩ = some (.slice vA q vc) := by simp [World.cell?, hgrp]
        have tf : ∀ j, w6.frozen? ⟨G, j, none⟩ = false := fun j => by simp [World.frozen?, hgrp]
        have r0 : w6.cell? ⟨w.heap.size, 0, none⟩ = some (.int .i64 0) := by rw [HRR.out]; simp [World.cell?, hres]
        have r1 : w6.cell? ⟨w.heap.size, 1, none⟩ = some (.int .i64 0) := by rw [HRR.out]; simp [World.cell?, hres]
        have r2 : w6.cell? ⟨w.heap.size, 2, none⟩ = some (.slice none 0 0) := by rw [HRR.out]; simp [World.cell?, hres]
        have rf : ∀ j, w6.frozen? ⟨w.heap.size, j, none⟩ = false := fun j => by rw [HRR.out]; simp [World.frozen?, hres]
        have hGR : G ≠ w.heap.size := by rw [← HG.out]; omega
        have hRG : w.heap.size ≠ G := hGR.symm
        have O6 := Lib.hid (show OwnRw w6 B (.slice A6 ul k6) (backRF [] rows) from o6.more (Nat.le_trans S5.out.num.2.2.2.2.2 (Nat.le_refl _)))
        have HLOW := Lib.hid S6.out.low
        have HBW := Lib.hid (show w.heap.size + 2 = B from HBB.out)
        clear hgrp hres o6
        go_wp2
        (try simp only [Exit.inBlock, Exit.then])
        refine bodyPost_ret (v := .agg #[.int .i64 F, .int .i64 T, .slice A6 ul k6]) (by simp [results, Tryz.results62, go_sem, r0, r1, r2]) rfl ?_
        refine ⟨_, rfl, ?_, ?_⟩
        · exact ((((O6.out.setBelow (show G < B by have := HBW.out; have := HG.out; omega) _).setBelow (show w.heap.size < B by have := HBW.out; omega) _).setBelow (show w.heap.size < B by have := HBW.out; omega) _).setBelow (show w.heap.size < B by have := HBW.out; omega) _).more (by have := HBW.out; omega)
        · exact (((HLOW.out.setCell (show w.heap.size ≤ G by have := HG.out; omega) _).setCell (Nat.le_refl _) _).setCell (Nat.le_refl _) _).setCell (Nat.le_refl _) _

set_option maxHeartbeats 4000000 in
set_option maxRecDepth 100000 in
theorem implBackGroups_any (a : Option Addr) (n c : Nat) (g : List Gp) (w : World) (hg : Gps w a n g) (hbk : Bk w) :
    Calls Tryz.prog 24 #[.slice a n c] w fun e w' => ∃ v vs, e = .returned (.tuple #[v, .bool (backG g).2]) ∧ OwnGp w' w.heap.size v (backG g).1 vs ∧ Below w.heap.size w w' := by
  have HN := Lib.hid hg.len
  cases hgg : goodG g
  · have hf := Lib.hid (show backG g = ([], false) from if_neg (by simp [hgg]))
    have HGG := Lib.hid hgg
    clear hgg
    go_enter Tryz.func24, Tryz.ntmps24
    go_wp2_with fail
    refine (implGoodGroups_any a n c g _ hg).mono ?_
    rintro e w1 ⟨rfl, b1⟩
    rw [HGG.out]
    go_wp2
    go_ret2
    exact ⟨_, [], by rw [hf.out]; rfl, by rw [hf.out]; exact OwnGp.nil_, b1⟩
  have hf := Lib.hid (show backG g = (g.map backGp, true) from if_pos hgg)
  have HGG := Lib.hid hgg
  have HALL := Lib.hid (goodGF_mem (show goodGF 0 0 g = true by unfold goodG at hgg; simp only [Bool.and_eq_true] at hgg; exact hgg.2))
  have hn20 : n ≤ 20 := by rw [← hg.len]; unfold goodG at hgg; simp only [Bool.and_eq_true, decide_eq_true_eq] at hgg; exact hgg.1
  have HBK := Lib.hid hbk
  clear hgg hbk
  go_enter Tryz.func24, Tryz.ntmps24
  go_wp2_with fail
  refine (implGoodGroups_any a n c g _ hg).mono ?_
  rintro e w1 ⟨rfl, b1⟩
  rw [HGG.out]
  go_wp2
  go_loopw [4, 11] (fun lv i w' => ∃ (v : Value) (vs : List (List D)) (k : Nat), v = lv ∧ i = .int .i64 (k : Int) ∧ k ≤ n ∧ OwnGp w' w.heap.size v ((g.take k).map backGp) vs ∧ Below w.heap.size w w') (fun _ i _ => n - (intOf i).toNat)
  case atStart => exact ⟨_, [], 0, rfl, rfl, by omega, OwnGp.nil_, b1⟩
  case round =>
    obtain ⟨v, vs, k, rfl, rfl, hk, ho, hb⟩ := hrel
    by_cases hlt : k < n
    · obtain ⟨b, off, A, m, c', x, rfl, hx, c0, c1, c2, hr, hmc, hok⟩ := (hg.below hb).at_ hlt
      have HX := Lib.hid (HALL.out x (List.mem_of_getElem? hx))
      have HS := Lib.hid (show (g.take (k + 1)).map backGp = (g.take k).map backGp ++ [backGp x] by rw [take_snoc hx, List.map_append]; rfl)
      have hlen : ((g.take k).map backGp).length ≤ 20 := by simp; omega
      have hi0 := hok.at_
      have hi1 := hok.to_
      have HO := Lib.hid ho
      have HBB := Lib.hid hb
      clear hx ho
      go_wp2_with fail
      refine (turnedBack_any b (off + k * 3) A m c' x _ c0 c1 c2 hr HX.out (HBK.out.below hb)).mono ?_
      rintro e w2 ⟨u, rfl, o2, b2⟩
      obtain ⟨ul, HUL⟩ : ∃ m, Hid ((backRF [] x.rows).length = m) := ⟨_, rfl⟩
      obtain ⟨uA, uc, rfl, hu1, _⟩ := o2.form HUL.out
      have HO2 := Lib.hid (HO.out.below b2)
      have B2 := Lib.hid (HBB.out.next b2)
      have hfr := Lib.hid (show ∀ g', (Value.slice uA ul uc).ownBlock = some g' → ¬ BlkR v vs g' from fun g' e e2 => by have h3 := (o2.lt e).1; have h4 := (HO.out.lt e2).2; omega)
      obtain ⟨W, HW⟩ : ∃ W, Hid (W = w2.alloc (.cells #[.int .i64 x.to_, .int .i64 x.at_, .slice uA ul uc] 60)) := ⟨_, rfl⟩
      have HB := Lib.hid (show Below w2.heap.size w2 W by rw [HW.out]; exact below_alloc _ _)
      have k0 : W.cell? ⟨w2.heap.size, 0, none⟩ = some (.int .i64 x.to_) := by rw [HW.out]; simp
      have k1 : W.cell? ⟨w2.heap.size, 1, none⟩ = some (.int .i64 x.at_) := by rw [HW.out]; simp
      have k2 : W.cell? ⟨w2.heap.size, 2, none⟩ = some (.slice uA ul uc) := by rw [HW.out]; simp
      have OU := Lib.hid ((o2.more HBB.out.size).below HB.out)
      clear o2 b2 c0 c1 c2
      go_wp2_with (first
        | (at_builtin; rw [← HW.out]; refine wpList_gp (.tmp 14) (.tmp 19) w.heap.size v _ vs (HO2.out.below HB.out) (backGp x) ⟨hi1, hi0, OU.out.ok⟩ (.slice uA ul uc) OU.out hfr.out w2.heap.size k0 k1 k2 (by omega) (B2.out.next HB.out).size rfl rfl rfl rfl ?_
           intro v7 w7 o7 g7 p7
           have B7 := Lib.hid (Below.grown (B2.out.next HB.out) g7 (B2.out.next HB.out).size (fun g' e => (HO2.out.lt (List.mem_append.2 (.inl (by simp [e])))).1)))
        | fail)
      go_roundw
      case rel => exact ⟨v7, _, k + 1, rfl, by go_num, by omega, by rw [HS.out]; exact o7, B7.out⟩
      case measure => simp [intOf]; omega
    · have htk : g.take k = g := List.take_of_length_le (by rw [HN.out]; omega)
      rw [htk] at ho
      go_wp2
      go_ret2
      exact ⟨v, vs, by rw [hf.out]; rfl, by rw [hf.out]; exact ho, hb⟩

end Go.Proofs.YtkamenidgkjodaaGreatDoor
