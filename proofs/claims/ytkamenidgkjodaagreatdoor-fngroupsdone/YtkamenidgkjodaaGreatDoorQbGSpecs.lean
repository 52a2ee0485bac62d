/-
  Rows appended to rows; the state of the model's l6One.
  One group: the model's l6One.
  GroupsOf, the model's.
-/
import Derived.Test.YtkamenidgkjodaaGreatDoorQbGRowsN
import Derived.Test.YtkamenidgkjodaaGreatDoorQbGTake
import Derived.Test.YtkamenidgkjodaaGreatDoorQbHPlace
import Derived.Test.YtkamenidgkjodaaGreatDoorQbGSpans
import Derived.Deep.DeepCutAuto
import Derived.Test.YtkamenidgkjodaaGreatDoorQbGImpl
set_option linter.unusedSimpArgs false
set_option linter.unusedVariables false
namespace Go.Proofs.YtkamenidgkjodaaGreatDoor
open Go.RowKit Go.ChangeShapes Go.WideShapes M

set_option maxRecDepth 100000 in
theorem run_app_rws {w : World} (ty : TypeId) (base : Nat) (v : Value) (l : List Rw) (hown : OwnRw w base v l) (A : Option Addr) (m c : Nat) (r : List Rw) (hu : OwnRw w base (.slice A m c) r) (hbound : l.length + m ≤ 1048576) (hbase : base ≤ w.heap.size) :
    ∃ v' w', (Builtin.append_ #[58, 58] ty #[v, .slice A m c]).run Tryz.prog w = .ok v' w' ∧ OwnRw w' base v' (l ++ r) ∧ w.grownBy w' v.ownBlock ∧ (v'.ownBlock = v.ownBlock ∨ v'.ownBlock = some w.heap.size) := by
  obtain ⟨i, q1, q2, q3, q4⟩ := info_parts rw_info
  have hl := hu.len_
  cases A with
  | none =>
    have hm : r = [] := by
      cases r with
      | nil => rfl
      | cons s r => obtain ⟨b, off, e, _⟩ := hu.rws.cell 0 s rfl; cases e
    subst hm
    have hm0 : m = 0 := hl.symm
    subst hm0
    refine ⟨v, w, ?_, by simpa using hown, ⟨rfl, rfl, rfl, Nat.le_refl _, fun _ _ _ => rfl⟩, .inl rfl⟩
    rcases hown.own.own.own.1.2 with ⟨hv, h0⟩ | ⟨g, cap, cur, hv, _, _, hnc, _⟩
    · subst hv
      simp [Builtin.append_, run_underlying Tryz.underlying58, sizeOf, typeInfo, q1, Builtin.lenOf, Builtin.firstCells]
    · subst hv
      rw [List.length_map] at hnc ⊢
      simp [Builtin.append_, run_underlying Tryz.underlying58, sizeOf, typeInfo, q1, Builtin.lenOf, Builtin.firstCells, hnc, storeCells]
  | some ad =>
    obtain ⟨⟨A', cap, e, h1, h2, h3, h4⟩, _⟩ := D.own_rd hu.datum.own
    injection e with e1 e2 e3
    have hcells : ∀ j d, ((r.map rwRow).flatten)[j]? = some d → w.cell? (ad.add j) = some d.val := fun j d hd => by
      obtain ⟨b, off, ea, hc⟩ := h4 j d hd
      rw [← e1] at ea
      injection ea with ea
      subst ea
      have e5 : (⟨b, off, none⟩ : Addr).add j = ⟨b, off + j, none⟩ := by unfold Addr.add; by_cases h0 : j = 0 <;> simp [h0]
      rw [e5]
      exact hc
    have ho := hown.own.own
    rw [List.length_map] at ho
    obtain ⟨v', w', hrun, ho', hg, hat⟩ := run_app_D (ty := ty) Tryz.underlying58 q1 q2 q3 q4 (by simp [Value.cells]) (by omega) base v l.length (l.map rwRow).flatten ho (r.map rwRow).flatten m (by rw [flat_len (rwRow_wide r), List.length_map, hl]) (rwRow_ownL w base r) (by rw [rwRow_blocks]; simp) (fun g hg => by rw [rwRow_blocks] at hg; simp at hg) ad c hcells (by unfold maxLen; omega) (by omega) hbase
    refine ⟨v', w', hrun, ⟨⟨?_, rwRow_wide _⟩, fun x hx => ?_⟩, hg, hat⟩
    · rw [List.length_map, List.length_append, hl, List.map_append, List.flatten_append]
      exact ho'
    · rcases List.mem_append.1 hx with h5 | h5
      · exact hown.ok x h5
      · exact hu.ok x h5
theorem step_rws {w : World} {ops : Array Oper} {o : Oper} {a : Act} {K : Act → World → Prop} {Q : Exit → Act → World → Prop} {E : Prop} (s y : Operand) (base : Nat) (v : Value) (l : List Rw) (hown : OwnRw w base v l) (A : Option Addr) (m c : Nat) (r : List Rw) (hu : OwnRw w base (.slice A m c) r) (hbound : l.length + m ≤ 1048576) (hbase : base ≤ w.heap.size)
    (hgd : Region.wanted o (yielded ops a.tmps) = true) (ho : o.op = .call { callee := .builtin .append, args := #[s, y], argTypes := #[58, 58] }) (hs : a.eval s = v) (hy : a.eval y = .slice A m c)
    (h : ∀ v' w', OwnRw w' base v' (l ++ r) → w.grownBy w' v.ownBlock → (v'.ownBlock = v.ownBlock ∨ v'.ownBlock = some w.heap.size) → K (a.put o.dst v') w') : if Region.wanted o (yielded ops a.tmps) = true then Oper.wp Tryz.prog o a w K Q else E := by
  rw [if_pos hgd]
  obtain ⟨v', w', hrun, h1, h2, h3⟩ := run_app_rws (o.type) base v l hown A m c r hu hbound hbase
  unfold Oper.wp execOp
  simp only [ho, resolve, invoke, builtin, Sem.run_bind, Sem.run_pure, Result.andThen_ok, List.map_toArray, List.map_cons, List.map_nil, hs, hy, hrun]
  exact h v' w' h1 h2 h3

structure OneSt (w wx : World) (y : Array Value) (F T : Int) (v : Value) (out : List Rw) : Prop where
  res : wx.heap[w.heap.size]? = some (.cells #[.int .i64 0, .int .i64 0, .slice none 0 0] 60 (0, 0))
  lst : wx.heap[w.heap.size + 1]? = some (.cells y 95 (0, 0))
  grp : wx.heap[w.heap.size + 2]? = some (.cells #[.int .i64 F, .int .i64 T, v] 60 (0, 0))
  own : OwnRw wx (w.heap.size + 3) v out
  low : Below w.heap.size w wx
section
variable {w wx w2 w3 : World} {y : Array Value} {F T : Int} {v v3 : Value} {out out' : List Rw}
theorem OneSt.big (h : OneSt w wx y F T v out) : w.heap.size + 3 ≤ wx.heap.size := (Array.getElem?_eq_some_iff.1 h.grp).1
theorem OneSt.below (h : OneSt w wx y F T v out) (hb : Below wx.heap.size wx w2) : OneSt w w2 y F T v out := by
  have hz := h.big
  exact ⟨(hb.block _ (by omega)).trans h.res, (hb.block _ (by omega)).trans h.lst, (hb.block _ (by omega)).trans h.grp, h.own.below hb, h.low.next hb⟩
theorem OneSt.rows (h : OneSt w wx y F T v out) : wx.cell? ⟨w.heap.size + 2, 2, none⟩ = some v ∧ ∀ j, wx.frozen? ⟨w.heap.size + 2, j, none⟩ = false :=
  ⟨by simp [World.cell?, h.grp], fun j => by simp [World.frozen?, h.grp]⟩
theorem OneSt.grown (h : OneSt w wx y F T v out) (hg : wx.grownBy w2 v.ownBlock) : w2.heap[w.heap.size]? = some (.cells #[.int .i64 0, .int .i64 0, .slice none 0 0] 60 (0, 0)) ∧ w2.heap[w.heap.size + 1]? = some (.cells y 95 (0, 0)) ∧ w2.heap[w.heap.size + 2]? = some (.cells #[.int .i64 F, .int .i64 T, v] 60 (0, 0)) ∧ Below w.heap.size w w2 := by
  have hz := h.big
  have hne : ∀ k, k < w.heap.size + 3 → v.ownBlock ≠ some k := fun k hk e => by have := (h.own.lt e).1; omega
  refine ⟨(hg.block _ (by omega) (fun e => hne _ (by omega) e.symm)).trans h.res, (hg.block _ (by omega) (fun e => hne _ (by omega) e.symm)).trans h.lst, (hg.block _ (by omega) (fun e => hne _ (by omega) e.symm)).trans h.grp, Below.grown h.low hg (by omega) (fun b e => by have := (h.own.lt e).1; omega)⟩
theorem OneSt.stored (h : OneSt w wx y F T v out) (hg : wx.grownBy w2 v.ownBlock) (ho : OwnRw w2 (w.heap.size + 3) v3 out') : OneSt w (w2.setCell ⟨w.heap.size + 2, 2, none⟩ v3) y F T v3 out' := by
  obtain ⟨g1, g2, g3, g4⟩ := h.grown hg
  refine ⟨?_, ?_, ?_, ho.wrote (Wrote.set (fun i => i = w.heap.size + 2) w2 _ _ rfl) (fun i e e2 => by have := (ho.lt e).1; omega), g4.setCell (by simp) _⟩
  · rw [Below.heap_setCell _ _ _ _ (by simp)]; exact g1
  · rw [Below.heap_setCell _ _ _ _ (by simp)]; exact g2
  · simp [World.setCell, Array.getElem?_modify, g3]
end

end Go.Proofs.YtkamenidgkjodaaGreatDoor

namespace Go.Proofs.YtkamenidgkjodaaGreatDoor
open Go.RowKit Go.ChangeShapes Go.WideShapes M

theorem l1MostH_any (a b : Int) (w : World) :
    Calls Tryz.prog 157 #[.int .i64 a, .int .i64 b] w fun e w' => e = .returned (.int .i64 (max a b)) ∧ w = w' := by
  by_cases h : b < a
  · have hd : decide (b < a) = true := decide_eq_true h
    have hf := Lib.hid (show max a b = a by omega)
    clear h
    go_enter Tryz.func157, Tryz.ntmps157
    go_wp2
    go_ret
    exact ⟨ret_int hf.out.symm, rfl⟩
  · have hd : decide (b < a) = false := decide_eq_false h
    have hf := Lib.hid (show max a b = b by omega)
    clear h
    go_enter Tryz.func157, Tryz.ntmps157
    go_wp2
    go_ret
    exact ⟨ret_int hf.out.symm, rfl⟩
theorem l1LeastH_any (a b : Int) (w : World) :
    Calls Tryz.prog 129 #[.int .i64 a, .int .i64 b] w fun e w' => e = .returned (.int .i64 (min a b)) ∧ w = w' := by
  by_cases h : a < b
  · have hd : decide (a < b) = true := decide_eq_true h
    have hf := Lib.hid (show min a b = a by omega)
    clear h
    go_enter Tryz.func129, Tryz.ntmps129
    go_wp2
    go_ret
    exact ⟨ret_int hf.out.symm, rfl⟩
  · have hd : decide (a < b) = false := decide_eq_false h
    have hf := Lib.hid (show min a b = b by omega)
    clear h
    go_enter Tryz.func129, Tryz.ntmps129
    go_wp2
    go_ret
    exact ⟨ret_int hf.out.symm, rfl⟩

theorem x_grown {w2 w3 : World} {v : Value} {X : Nat} {o : Obj} (h : w2.heap[X]? = some o) (hg : w2.grownBy w3 v.ownBlock) (hne : v.ownBlock ≠ some X) : w3.heap[X]? = some o :=
  (hg.block _ (Array.getElem?_eq_some_iff.1 h).1 (fun e => hne e.symm)).trans h
theorem x_stored {w3 : World} {u : Value} {X G j : Nat} {o : Obj} (h : w3.heap[X]? = some o) (hne : X ≠ G) : (w3.setCell ⟨G, j, none⟩ u).heap[X]? = some o := by
  rw [Below.heap_setCell _ _ _ _ (by simpa using hne)]; exact h
theorem ne_grown {v v3 : Value} {X n : Nat} (hne : v.ownBlock ≠ some X) (hat : v3.ownBlock = v.ownBlock ∨ v3.ownBlock = some n) (hn : X < n) : v3.ownBlock ≠ some X := by
  rcases hat with h | h
  · rw [h]; exact hne
  · rw [h]; intro e; injection e with e; omega

set_option maxHeartbeats 8000000 in
set_option maxRecDepth 100000 in
theorem l6One_any (a : Option Addr) (nl cl : Nat) (l : List ByteArray) (b0 : Option Addr) (n c : Nat) (hs : List Hk) (x y : Hk) (W F E : Nat) (more : Int) (w : World) (hl : Strs w a nl l) (hcl : nl ≤ cl) (hh : Hks w b0 n hs) (hx : hs[0]? = some x) (hy : hs[n - 1]? = some y) (hF : fromN W x = F) (hE : endN nl W y = E) (hr0 : restOk E hs F) (hFE : F ≤ E) (hEn : E ≤ nl) (hnl : nl ≤ 40) (hn : n ≤ 20) (hW : W ≤ 20) (hm0 : -800 ≤ more) (hm1 : more ≤ 800)
    (hb0 : ∀ z ∈ hs, 0 ≤ z.at_ ∧ z.at_ ≤ 40 ∧ 0 ≤ z.gone ∧ z.gone ≤ 40 ∧ z.new.length ≤ 40) :
    Calls Tryz.prog 138 #[.slice a nl cl, .slice b0 n c, .int .i64 (W : Int), .int .i64 more] w fun e w' => ∃ u, e = .returned (.agg #[.int .i64 (F : Int), .int .i64 ((F : Int) + more), u]) ∧ OwnRw w' w.heap.size u (rowsM l E F hs) ∧ Below w.heap.size w w' := by
  have HL := Lib.hid hl.len
  have HN := Lib.hid hh.len
  have hn1 : 1 ≤ n := by have := (List.getElem?_eq_some_iff.1 hx).1; have := HN.out; omega
  have hxb := hb0 x (List.mem_of_getElem? hx)
  have hyb := hb0 y (List.mem_of_getElem? hy)
  obtain ⟨b, off, A, m, c', x', rfl, hx', x0, x1, x2, _, _, _, _⟩ := hh.at_ (show 0 < n by omega)
  rw [hx] at hx'
  injection hx' with hx'
  subst hx'
  obtain ⟨b', off', A', m', c2', y', hbo, hy', y0, y1, y2, _, _, _, _⟩ := hh.at_ (show n - 1 < n by omega)
  injection hbo with hbo
  injection hbo with hbo1 hbo2
  subst hbo1 hbo2
  rw [hy] at hy'
  injection hy' with hy'
  subst hy'
  have HMF := Lib.hid (show max 0 (x.at_ - (W : Int)) = (F : Int) by rw [← hF]; unfold fromN; omega)
  have HME := Lib.hid (show min (nl : Int) (y.at_ + y.gone + (W : Int)) = (E : Int) by rw [← hE]; unfold endN; omega)
  have HR0 := Lib.hid hr0
  have HB0 := Lib.hid hb0
  have HHH := Lib.hid hh
  have HLL := Lib.hid hl
  obtain ⟨xa0, xa1, xg0, xg1, xn⟩ := hxb
  obtain ⟨ya0, ya1, yg0, yg1, yn⟩ := hyb
  obtain ⟨xa, xg, xnew⟩ := x
  obtain ⟨ya, yg, ynew⟩ := y
  dsimp only at *
  rw [Nat.zero_mul, Nat.add_zero] at x0
  have s1 : IntKind.i64.wrap (xa - (W : Int)) = xa - (W : Int) := by rw [IntKind.wrap_i64]; omega
  have s2 : IntKind.i64.wrap ((n : Int) - 1) = (n : Int) - 1 := by rw [IntKind.wrap_i64]; omega
  have s3 : IntKind.i64.wrap ((F : Int) + more) = (F : Int) + more := by rw [IntKind.wrap_i64]; omega
  have s4 : IntKind.i64.wrap (ya + yg) = ya + yg := by rw [IntKind.wrap_i64]; omega
  have s5 : IntKind.i64.wrap (ya + yg + (W : Int)) = ya + yg + (W : Int) := by rw [IntKind.wrap_i64]; omega
  have j0 : (0 : Int) ≤ (n : Int) - 1 := by omega
  have j0' : (1 : Int) ≤ (n : Int) := by omega
  have j0n : (0 : Int) < (n : Int) := by omega
  have j1 : (n : Int) - 1 < (n : Int) := by omega
  have jt : ((n : Int) - 1).toNat = n - 1 := by omega
  obtain ⟨W1, HW1⟩ : ∃ W1, Hid (W1 = w.alloc (.cells #[.int .i64 0, .int .i64 0, .slice none 0 0] 60)) := ⟨_, rfl⟩
  have HBW1 := Lib.hid (show Below w.heap.size w W1 by rw [HW1.out]; exact below_alloc _ _)
  have HS1 := Lib.hid (show W1.heap.size = w.heap.size + 1 by rw [HW1.out]; simp)
  obtain ⟨W3, HW3⟩ : ∃ W3, Hid (W3 = (W1.alloc (.cells #[.int .i64 ya, .int .i64 yg, .slice A' m' c2'] 95)).alloc (.cells #[.int .i64 (F : Int), .int .i64 ((F : Int) + more), .slice none 0 0] 60)) := ⟨_, rfl⟩
  have HOS := Lib.hid (show OneSt w W3 #[.int .i64 ya, .int .i64 yg, .slice A' m' c2'] (F : Int) ((F : Int) + more) (.slice none 0 0) [] by
    refine ⟨?_, ?_, ?_, OwnRw.nil_, ?_⟩
    · rw [HW3.out, Below.heap_alloc _ _ _ (by simp [HS1.out]; omega), Below.heap_alloc _ _ _ (by rw [HS1.out]; omega), HW1.out]; exact heap_at rfl
    · rw [HW3.out, Below.heap_alloc _ _ _ (by simp [HS1.out]), ← HS1.out]; exact heap_at rfl
    · rw [HW3.out]; exact heap_at (by simp [HS1.out])
    · rw [HW3.out]; exact (HBW1.out.next (below_alloc _ _)).next (below_alloc _ _))
  have x0' := fun o => cell_keep (below_alloc w o) x0
  have y0' := cell_keep HBW1.out y0
  have y1' := cell_keep HBW1.out y1
  have y2' := cell_keep HBW1.out y2
  clear hx hy hF hE hr0 hb0 x0 x1 x2 y0 y1 y2
  go_enter Tryz.func138, Tryz.ntmps138
  go_wp2_with fail
  refine (l1MostH_any _ _ _).mono ?_
  rintro e w' ⟨rfl, rfl⟩
  rw [HMF.out, ← HW1.out]
  go_wp2
  rw [← HW3.out]
  clear x0' y0' y1' y2' j0 j0' j1 jt j0n s1 s2 s3
  obtain ⟨LB, HLB⟩ : ∃ LB, Hid (W1.heap.size = LB) := ⟨_, rfl⟩
  obtain ⟨G, HG⟩ : ∃ G, Hid (W1.heap.size + 1 = G) := ⟨_, rfl⟩
  have HLW := Lib.hid (show w.heap.size + 1 = LB by rw [← HLB.out, HS1.out])
  have HGW := Lib.hid (show w.heap.size + 2 = G by rw [← HG.out, HS1.out])
  rw [HG.out, HLB.out]
  obtain ⟨Y, HY⟩ : ∃ Y : Array Value, Hid (#[.int .i64 ya, .int .i64 yg, .slice A' m' c2'] = Y) := ⟨_, rfl⟩
  rw [HY.out] at HOS
  obtain ⟨T, HT⟩ : ∃ T, Hid ((F : Int) + more = T) := ⟨_, rfl⟩
  rw [HT.out] at HOS
  go_loopw [12, 37] (fun q i w' => ∃ (v : Value) (out : List Rw), ∃ j p : Nat, i = .int .i64 (j : Int) ∧ q = .int .i64 (p : Int) ∧ j ≤ n ∧ p ≤ E ∧ Hid (OneSt w w' Y (F : Int) T v out) ∧ Hid (out.length ≤ 120 * j) ∧ Hid (restOk E (hs.drop j) p) ∧ Hid (out ++ rowsM l E p (hs.drop j) = rowsM l E F hs)) (fun _ i _ => n - (intOf i).toNat)
  case atStart => exact ⟨_, [], 0, F, rfl, rfl, by omega, hFE, HOS.out, show _ ≤ _ by simp, HR0.out, rfl⟩
  case round =>
    obtain ⟨v, out, j, p, rfl, rfl, hj, hp, OS0, HO, HR, HP⟩ := hrel
    have hb := OS0.out.low
    by_cases hlt : j < n
    · obtain ⟨bz, offz, Az, mz, cz, z, hbz, hz, c0, c1, c2, hst, hmc, i0, i1⟩ := HHH.out.at_ hlt
      injection hbz with hbz
      injection hbz with hbz1 hbz2
      subst hbz1 hbz2
      obtain ⟨at', go, ea, eg, hpa, hag, hln, hno, hrest⟩ := rest_step hz HR.out
      have hstep := Lib.hid (rowsM_step (l := l) (q := E) (p := p) hz)
      obtain ⟨za, zg, zn⟩ := z
      dsimp only at ea eg hln c0 c1 c2 hst i0 i1
      subst ea eg
      have hm40 : mz ≤ 40 := by rw [← hst.len]; exact linesB_len hln
      obtain ⟨hi, Hhi⟩ : ∃ hi, Hid (hi = at' + go) := ⟨_, rfl⟩
      have hhn : hi ≤ E := by rw [Hhi.out]; omega
      have hah : at' ≤ hi := by rw [Hhi.out]; omega
      have HREST := Lib.hid (show restOk E (hs.drop (j + 1)) hi by rw [Hhi.out]; exact hrest)
      have HM := Lib.hid hst.len
      have HST := Lib.hid hst
      have hlen0 : out.length ≤ 2400 := by have := HO.out; omega
      have hcut := cut_strs a nl cl p at' hpa (by omega)
      have hcut2 := cut_strs a nl cl at' hi hah (by omega)
      have hwe : IntKind.i64.wrap ((at' : Int) + (go : Int)) = (hi : Int) := by have h := Hhi.out; rw [IntKind.wrap_i64]; omega
      have d0 := cell_keep hb c0
      have d1 := cell_keep hb c1
      have d2 := cell_keep hb c2
      obtain ⟨wa, HWA⟩ : ∃ wa, Hid (wa = wr.alloc (.cells #[.int .i64 (at' : Int), .int .i64 (go : Int), .slice Az mz cz] 95)) := ⟨_, rfl⟩
      have OS := Lib.hid (show OneSt w wa Y (F : Int) T v out from by rw [HWA.out]; exact OS0.out.below (below_alloc _ _))
      obtain ⟨X, HX⟩ : ∃ X, Hid (wr.heap.size = X) := ⟨_, rfl⟩
      have XO := Lib.hid (show wa.heap[X]? = some (.cells #[.int .i64 (at' : Int), .int .i64 (go : Int), .slice Az mz cz] 95 (0, 0)) by rw [HWA.out, ← HX.out]; exact heap_at rfl)
      have hX3 := Lib.hid (show w.heap.size + 3 ≤ X by rw [← HX.out]; exact OS0.out.big)
      have HNE := Lib.hid (show v.ownBlock ≠ some X from fun e => by have := (OS0.out.own.lt e).2; have := HX.out; omega)
      have HBA := Lib.hid (show Below w.heap.size w wa from OS.out.low)
      have hGX := Lib.hid (show X ≠ G by have := hX3.out; have := HGW.out; omega)
      clear hz hrest hag hln hno hst c0 c1 c2
      go_upto_region 8 with fail
      rw [← HWA.out, HX.out]
      clear d0 d1 d2
      have HO0 := Lib.hid hlen0
      have Lout := hlen0
      have LS1 := Lib.hid (seg_len l p at')
      have LS2 := Lib.hid (seg_len l at' hi)
      go_cut [] (fun wx => ∃ v', OneSt w wx Y (F : Int) T v' (out ++ kR 1 (seg l p at')) ∧ wx.heap[X]? = some (.cells #[.int .i64 (at' : Int), .int .i64 (go : Int), .slice Az mz cz] 95 (0, 0)) ∧ v'.ownBlock ≠ some X)
      case first => as_aux_lemma =>
        have x0 : wa.cell? ⟨X, 0, none⟩ = some (.int .i64 (at' : Int)) := by simp [World.cell?, XO.out]
        have x1 : wa.cell? ⟨X, 1, none⟩ = some (.int .i64 (go : Int)) := by simp [World.cell?, XO.out]
        have x2 : wa.cell? ⟨X, 2, none⟩ = some (.slice Az mz cz) := by simp [World.cell?, XO.out]
        have G2 := Lib.hid (show wa.cell? ⟨G, 2, none⟩ = some v by rw [← HGW.out]; exact OS.out.rows.1)
        go_wp2
        refine wp_region_held_drew (S := fun w' => w'.cell? ⟨X, 0, none⟩ = some (.int .i64 (at' : Int)) ∧ w'.cell? ⟨X, 1, none⟩ = some (.int .i64 (go : Int)) ∧ w'.cell? ⟨X, 2, none⟩ = some (.slice Az mz cz)) (by kernel_rfl) ?_ (fun hHeld => ?_)
        · exact ⟨x0, x1, x2⟩
        refine wpAnyH_take (i := 0) (v := ?_) (by simp only [List.getElem?_toArray, List.getElem?_cons_succ, List.getElem?_cons_zero]; rfl) (by kernel_rfl) (by kernel_rfl) (by kernel_rfl) (by exact fun _ _ _ h => h) (Or.inl ⟨by rfl, ?_⟩) hHeld ?_
        rotate_left 1
        · (intro w hSw; (try dsimp only at hSw); go_simp; (try with_reducible rfl))
        (try simp only [Act.put, List.setIfInBounds_toArray, List.set_cons_zero, List.set_cons_succ])
        refine wpAnyH_take (i := 2) (v := ?_) (by simp only [List.getElem?_toArray, List.getElem?_cons_succ, List.getElem?_cons_zero]; rfl) (by kernel_rfl) (by kernel_rfl) (by kernel_rfl) (by exact fun _ _ _ h => h) (Or.inl ⟨by rfl, ?_⟩) hHeld ?_
        rotate_left 1
        · (intro w hSw; (try dsimp only at hSw); go_simp; (try with_reducible rfl))
        (try simp only [Act.put, List.setIfInBounds_toArray, List.set_cons_zero, List.set_cons_succ])
        refine wpAnyH_take (i := 3) (v := ?_) (by simp only [List.getElem?_toArray, List.getElem?_cons_succ, List.getElem?_cons_zero]; rfl) (by kernel_rfl) (by kernel_rfl) (by kernel_rfl) (by exact fun _ _ _ h => h) (Or.inl ⟨by rfl, ?_⟩) hHeld ?_
        rotate_left 1
        · (intro w hSw; (try dsimp only at hSw); go_simp; (try with_reducible rfl))
        (try simp only [Act.put, List.setIfInBounds_toArray, List.set_cons_zero, List.set_cons_succ])
        refine wpAnyH_take (i := 4) (v := ?_) (by simp only [List.getElem?_toArray, List.getElem?_cons_succ, List.getElem?_cons_zero]; rfl) (by kernel_rfl) (by kernel_rfl) (by kernel_rfl) (by exact fun _ _ _ h => h) (Or.inl ⟨by rfl, ?_⟩) hHeld ?_
        rotate_left 1
        · (intro w hSw; (try dsimp only at hSw); go_simp; (try with_reducible rfl))
        (try simp only [Act.put, List.setIfInBounds_toArray, List.set_cons_zero, List.set_cons_succ])
        refine wpAnyH_take (i := 5) (v := ?_) (by simp only [List.getElem?_toArray, List.getElem?_cons_succ, List.getElem?_cons_zero]; rfl) (by kernel_rfl) (by kernel_rfl) (by kernel_rfl) (by exact fun _ _ _ h => h) (Or.inl ⟨by rfl, ?_⟩) hHeld ?_
        rotate_left 1
        · (intro w hSw; (try dsimp only at hSw); go_simp; (try with_reducible rfl))
        (try simp only [Act.put, List.setIfInBounds_toArray, List.set_cons_zero, List.set_cons_succ])
        refine wpAnyH_take (i := 6) (v := ?_) (by simp only [List.getElem?_toArray, List.getElem?_cons_succ, List.getElem?_cons_zero]; rfl) (by kernel_rfl) (by kernel_rfl) (by kernel_rfl) (by exact fun _ _ _ h => h) (Or.inl ⟨by rfl, ?_⟩) hHeld ?_
        rotate_left 1
        · (intro w hSw; (try dsimp only at hSw); go_simp; (try with_reducible rfl))
        (try simp only [Act.put, List.setIfInBounds_toArray, List.set_cons_zero, List.set_cons_succ])
        refine wpAnyH_ready (rs := [1, 7]) (by kernel_rfl) (by simp) ?_
        refine AllReadyH.cons (by simp only [List.getElem?_toArray, List.getElem?_cons_succ, List.getElem?_cons_zero]; rfl) (fun K hK => ?_) (AllReadyH.cons (by simp only [List.getElem?_toArray, List.getElem?_cons_succ, List.getElem?_cons_zero]; rfl) (fun K hK => ?_) AllReadyH.nil)
        · have gld := G2.out
          go_simp
          clear gld
          refine hK.out _ _ ?_ (fun hHeld => ?_)
          · exact ⟨x0, x1, x2⟩
          clear hK K
          (try simp only [Act.put, List.setIfInBounds_toArray, List.set_cons_zero, List.set_cons_succ])
          refine wpAnyH_ready (rs := [7]) (by kernel_rfl) (by simp) ?_
          refine AllReadyH.cons (by simp only [List.getElem?_toArray, List.getElem?_cons_succ, List.getElem?_cons_zero]; rfl) (fun K hK => ?_) AllReadyH.nil
          go_simp
          go_at_call 158
          refine (l6Rows_any 1 (cutA a cl p) (at' - p) (cl - p) (seg l p at') _ ⟨by decide, by decide⟩ ((HLL.out.below HBA.out.drew).cut hpa (by omega) hcl) (by omega)).mono ?_
          rintro e w2 ⟨u, rfl, o2, b2⟩
          obtain ⟨ul, HUL⟩ : ∃ ul, Hid ((kR 1 (seg l p at')).length = ul) := ⟨_, rfl⟩
          obtain ⟨uA, uc, rfl, hu1, _⟩ := o2.form HUL.out
          have D2 := Lib.hid (show Below wa.heap.size wa w2 from (Below.refl _ wa).drew.next b2)
          have o2b := o2.more (show w.heap.size + 3 ≤ wa.drew.heap.size from OS.out.big)
          have OS2 := Lib.hid (OS.out.below D2.out)
          clear b2
          have X2 : w2.heap[X]? = some (.cells #[.int .i64 (at' : Int), .int .i64 (go : Int), .slice Az mz cz] 95 (0, 0)) := (D2.out.block _ (Array.getElem?_eq_some_iff.1 XO.out).1).trans XO.out
          refine hK.out _ _ ?_ (fun hHeld => ?_)
          · exact ⟨by simp [World.cell?, X2], by simp [World.cell?, X2], by simp [World.cell?, X2]⟩
          clear hK K
          (try simp only [Act.put, List.setIfInBounds_toArray, List.set_cons_zero, List.set_cons_succ])
          refine wpAnyH_ready (rs := [8]) (by kernel_rfl) (by simp) ?_
          refine AllReadyH.cons (by simp only [List.getElem?_toArray, List.getElem?_cons_succ, List.getElem?_cons_zero]; rfl) (fun K hK => ?_) AllReadyH.nil
          refine step_rws (.tmp 42) (.tmp 48) (w.heap.size + 3) v out OS2.out.own uA ul uc (kR 1 (seg l p at')) o2b (by have h1 := HO0.out; have h2 := HUL.out; rw [kR_len] at h2; have := LS1.out; omega) OS2.out.big rfl rfl rfl rfl ?_
          intro v3 w3 o3 g3 p3
          obtain ⟨vl, HVL⟩ : ∃ vl, Hid ((out ++ kR 1 (seg l p at')).length = vl) := ⟨_, rfl⟩
          obtain ⟨vA, vc, rfl, hv1, _⟩ := o3.form HVL.out
          have gg := OS2.out.grown g3
          rw [HGW.out] at gg
          have e2 : w3.cell? ⟨G, 2, none⟩ = some v := by simp [World.cell?, gg.2.2.1]
          have f2 : ∀ j, w3.frozen? ⟨G, j, none⟩ = false := fun j => by simp [World.frozen?, gg.2.2.1]
          have OS3 := Lib.hid (OS2.out.stored g3 o3)
          rw [HGW.out] at OS3
          have X3 : w3.heap[X]? = some (.cells #[.int .i64 (at' : Int), .int .i64 (go : Int), .slice Az mz cz] 95 (0, 0)) := x_grown X2 g3 HNE.out
          have X4 : (w3.setCell ⟨G, 2, none⟩ (.slice vA vl vc)).heap[X]? = some (.cells #[.int .i64 (at' : Int), .int .i64 (go : Int), .slice Az mz cz] 95 (0, 0)) := x_stored X3 hGX.out
          have NE3 := ne_grown HNE.out p3 (Array.getElem?_eq_some_iff.1 X2).1
          refine hK.out _ _ ?_ (fun hHeld => ?_)
          · exact ⟨by simp [World.cell?, X3], by simp [World.cell?, X3], by simp [World.cell?, X3]⟩
          clear hK K
          (try simp only [Act.put, List.setIfInBounds_toArray, List.set_cons_zero, List.set_cons_succ])
          refine wpAnyH_take (i := 9) (v := ?_) (by simp only [List.getElem?_toArray, List.getElem?_cons_succ, List.getElem?_cons_zero]; rfl) (by kernel_rfl) (by kernel_rfl) (by kernel_rfl) (by exact fun _ _ _ h => h) (Or.inl ⟨by rfl, ?_⟩) hHeld ?_
          rotate_left 1
          · (intro w hSw; (try dsimp only at hSw); go_simp; (try with_reducible rfl))
          (try simp only [Act.put, List.setIfInBounds_toArray, List.set_cons_zero, List.set_cons_succ])
          refine wpAnyH_ready (rs := [10]) (by kernel_rfl) (by simp) ?_
          refine AllReadyH.cons (by simp only [List.getElem?_toArray, List.getElem?_cons_succ, List.getElem?_cons_zero]; rfl) (fun K hK => ?_) AllReadyH.nil
          go_simp
          refine hK.out _ _ ?_ (fun hHeld => ?_)
          · exact ⟨by simp [World.cell?, X4], by simp [World.cell?, X4], by simp [World.cell?, X4]⟩
          clear hK K
          (try simp only [Act.put, List.setIfInBounds_toArray, List.set_cons_zero, List.set_cons_succ])
          refine wpAnyH_done (by kernel_rfl) ?_ _
          clear hHeld
          go_wp2_with fail
          go_meet
          case rel => exact ⟨_, OS3.out, X4, NE3⟩
        · go_simp
          go_at_call 158
          refine (l6Rows_any 1 (cutA a cl p) (at' - p) (cl - p) (seg l p at') _ ⟨by decide, by decide⟩ ((HLL.out.below HBA.out.drew).cut hpa (by omega) hcl) (by omega)).mono ?_
          rintro e w2 ⟨u, rfl, o2, b2⟩
          obtain ⟨ul, HUL⟩ : ∃ ul, Hid ((kR 1 (seg l p at')).length = ul) := ⟨_, rfl⟩
          obtain ⟨uA, uc, rfl, hu1, _⟩ := o2.form HUL.out
          have D2 := Lib.hid (show Below wa.heap.size wa w2 from (Below.refl _ wa).drew.next b2)
          have o2b := o2.more (show w.heap.size + 3 ≤ wa.drew.heap.size from OS.out.big)
          have OS2 := Lib.hid (OS.out.below D2.out)
          clear b2
          have X2 : w2.heap[X]? = some (.cells #[.int .i64 (at' : Int), .int .i64 (go : Int), .slice Az mz cz] 95 (0, 0)) := (D2.out.block _ (Array.getElem?_eq_some_iff.1 XO.out).1).trans XO.out
          refine hK.out _ _ ?_ (fun hHeld => ?_)
          · exact ⟨by simp [World.cell?, X2], by simp [World.cell?, X2], by simp [World.cell?, X2]⟩
          clear hK K
          (try simp only [Act.put, List.setIfInBounds_toArray, List.set_cons_zero, List.set_cons_succ])
          refine wpAnyH_ready (rs := [1]) (by kernel_rfl) (by simp) ?_
          refine AllReadyH.cons (by simp only [List.getElem?_toArray, List.getElem?_cons_succ, List.getElem?_cons_zero]; rfl) (fun K hK => ?_) AllReadyH.nil
          have gld := cell_keep D2.out G2.out
          go_simp
          clear gld
          refine hK.out _ _ ?_ (fun hHeld => ?_)
          · exact ⟨by simp [World.cell?, X2], by simp [World.cell?, X2], by simp [World.cell?, X2]⟩
          clear hK K
          (try simp only [Act.put, List.setIfInBounds_toArray, List.set_cons_zero, List.set_cons_succ])
          refine wpAnyH_ready (rs := [8]) (by kernel_rfl) (by simp) ?_
          refine AllReadyH.cons (by simp only [List.getElem?_toArray, List.getElem?_cons_succ, List.getElem?_cons_zero]; rfl) (fun K hK => ?_) AllReadyH.nil
          refine step_rws (.tmp 42) (.tmp 48) (w.heap.size + 3) v out OS2.out.own uA ul uc (kR 1 (seg l p at')) o2b (by have h1 := HO0.out; have h2 := HUL.out; rw [kR_len] at h2; have := LS1.out; omega) OS2.out.big rfl rfl rfl rfl ?_
          intro v3 w3 o3 g3 p3
          obtain ⟨vl, HVL⟩ : ∃ vl, Hid ((out ++ kR 1 (seg l p at')).length = vl) := ⟨_, rfl⟩
          obtain ⟨vA, vc, rfl, hv1, _⟩ := o3.form HVL.out
          have gg := OS2.out.grown g3
          rw [HGW.out] at gg
          have e2 : w3.cell? ⟨G, 2, none⟩ = some v := by simp [World.cell?, gg.2.2.1]
          have f2 : ∀ j, w3.frozen? ⟨G, j, none⟩ = false := fun j => by simp [World.frozen?, gg.2.2.1]
          have OS3 := Lib.hid (OS2.out.stored g3 o3)
          rw [HGW.out] at OS3
          have X3 : w3.heap[X]? = some (.cells #[.int .i64 (at' : Int), .int .i64 (go : Int), .slice Az mz cz] 95 (0, 0)) := x_grown X2 g3 HNE.out
          have X4 : (w3.setCell ⟨G, 2, none⟩ (.slice vA vl vc)).heap[X]? = some (.cells #[.int .i64 (at' : Int), .int .i64 (go : Int), .slice Az mz cz] 95 (0, 0)) := x_stored X3 hGX.out
          have NE3 := ne_grown HNE.out p3 (Array.getElem?_eq_some_iff.1 X2).1
          refine hK.out _ _ ?_ (fun hHeld => ?_)
          · exact ⟨by simp [World.cell?, X3], by simp [World.cell?, X3], by simp [World.cell?, X3]⟩
          clear hK K
          (try simp only [Act.put, List.setIfInBounds_toArray, List.set_cons_zero, List.set_cons_succ])
          refine wpAnyH_take (i := 9) (v := ?_) (by simp only [List.getElem?_toArray, List.getElem?_cons_succ, List.getElem?_cons_zero]; rfl) (by kernel_rfl) (by kernel_rfl) (by kernel_rfl) (by exact fun _ _ _ h => h) (Or.inl ⟨by rfl, ?_⟩) hHeld ?_
          rotate_left 1
          · (intro w hSw; (try dsimp only at hSw); go_simp; (try with_reducible rfl))
          (try simp only [Act.put, List.setIfInBounds_toArray, List.set_cons_zero, List.set_cons_succ])
          refine wpAnyH_ready (rs := [10]) (by kernel_rfl) (by simp) ?_
          refine AllReadyH.cons (by simp only [List.getElem?_toArray, List.getElem?_cons_succ, List.getElem?_cons_zero]; rfl) (fun K hK => ?_) AllReadyH.nil
          go_simp
          refine hK.out _ _ ?_ (fun hHeld => ?_)
          · exact ⟨by simp [World.cell?, X4], by simp [World.cell?, X4], by simp [World.cell?, X4]⟩
          clear hK K
          (try simp only [Act.put, List.setIfInBounds_toArray, List.set_cons_zero, List.set_cons_succ])
          refine wpAnyH_done (by kernel_rfl) ?_ _
          clear hHeld
          go_wp2_with fail
          go_meet
          case rel => exact ⟨_, OS3.out, X4, NE3⟩
      case rest => as_aux_lemma =>
      obtain ⟨v, os', xo', ne'⟩ := hcut
      clear OS XO HNE HO0 HBA
      obtain ⟨wa, hwa⟩ : ∃ wa, wa = wc := ⟨_, rfl⟩
      subst hwa
      obtain ⟨out1, Hout1⟩ : ∃ o, Hid (out ++ kR 1 (seg l p at') = o) := ⟨_, rfl⟩
      rw [Hout1.out] at os'
      have OS := Lib.hid os'
      have XO := Lib.hid xo'
      have HNE := Lib.hid ne'
      have HBA := Lib.hid os'.low
      have HO0 := Lib.hid (show out1.length ≤ 2440 by rw [← Hout1.out, List.length_append, kR_len]; have := LS1.out;  have := Lout; omega)
      have Lout1 := HO0.out
      clear os' xo' ne'
      go_upto_region 9 with fail
      go_cut [] (fun wx => ∃ v', OneSt w wx Y (F : Int) T v' (out1 ++ kR 2 (seg l at' hi)) ∧ wx.heap[X]? = some (.cells #[.int .i64 (at' : Int), .int .i64 (go : Int), .slice Az mz cz] 95 (0, 0)) ∧ v'.ownBlock ≠ some X)
      case first => as_aux_lemma =>
        have x0 : wa.cell? ⟨X, 0, none⟩ = some (.int .i64 (at' : Int)) := by simp [World.cell?, XO.out]
        have x1 : wa.cell? ⟨X, 1, none⟩ = some (.int .i64 (go : Int)) := by simp [World.cell?, XO.out]
        have x2 : wa.cell? ⟨X, 2, none⟩ = some (.slice Az mz cz) := by simp [World.cell?, XO.out]
        have G2 := Lib.hid (show wa.cell? ⟨G, 2, none⟩ = some v by rw [← HGW.out]; exact OS.out.rows.1)
        go_wp2
        refine wp_region_held_drew (S := fun w' => w'.cell? ⟨X, 0, none⟩ = some (.int .i64 (at' : Int)) ∧ w'.cell? ⟨X, 1, none⟩ = some (.int .i64 (go : Int)) ∧ w'.cell? ⟨X, 2, none⟩ = some (.slice Az mz cz)) (by kernel_rfl) ?_ (fun hHeld => ?_)
        · exact ⟨x0, x1, x2⟩
        refine wpAnyH_take (i := 0) (v := ?_) (by simp only [List.getElem?_toArray, List.getElem?_cons_succ, List.getElem?_cons_zero]; rfl) (by kernel_rfl) (by kernel_rfl) (by kernel_rfl) (by exact fun _ _ _ h => h) (Or.inl ⟨by rfl, ?_⟩) hHeld ?_
        rotate_left 1
        · (intro w hSw; (try dsimp only at hSw); go_simp; (try with_reducible rfl))
        (try simp only [Act.put, List.setIfInBounds_toArray, List.set_cons_zero, List.set_cons_succ])
        refine wpAnyH_take (i := 2) (v := ?_) (by simp only [List.getElem?_toArray, List.getElem?_cons_succ, List.getElem?_cons_zero]; rfl) (by kernel_rfl) (by kernel_rfl) (by kernel_rfl) (by exact fun _ _ _ h => h) (Or.inl ⟨by rfl, ?_⟩) hHeld ?_
        rotate_left 1
        · (intro w hSw; (try dsimp only at hSw); go_simp; (try with_reducible rfl))
        (try simp only [Act.put, List.setIfInBounds_toArray, List.set_cons_zero, List.set_cons_succ])
        refine wpAnyH_take (i := 3) (v := ?_) (by simp only [List.getElem?_toArray, List.getElem?_cons_succ, List.getElem?_cons_zero]; rfl) (by kernel_rfl) (by kernel_rfl) (by kernel_rfl) (by exact fun _ _ _ h => h) (Or.inl ⟨by rfl, ?_⟩) hHeld ?_
        rotate_left 1
        · (intro w hSw; (try dsimp only at hSw); go_simp; (try with_reducible rfl))
        (try simp only [Act.put, List.setIfInBounds_toArray, List.set_cons_zero, List.set_cons_succ])
        refine wpAnyH_take (i := 4) (v := ?_) (by simp only [List.getElem?_toArray, List.getElem?_cons_succ, List.getElem?_cons_zero]; rfl) (by kernel_rfl) (by kernel_rfl) (by kernel_rfl) (by exact fun _ _ _ h => h) (Or.inl ⟨by rfl, ?_⟩) hHeld ?_
        rotate_left 1
        · (intro w hSw; (try dsimp only at hSw); go_simp; (try with_reducible rfl))
        (try simp only [Act.put, List.setIfInBounds_toArray, List.set_cons_zero, List.set_cons_succ])
        refine wpAnyH_take (i := 5) (v := ?_) (by simp only [List.getElem?_toArray, List.getElem?_cons_succ, List.getElem?_cons_zero]; rfl) (by kernel_rfl) (by kernel_rfl) (by kernel_rfl) (by exact fun _ _ _ h => h) (Or.inl ⟨by rfl, ?_⟩) hHeld ?_
        rotate_left 1
        · (intro w hSw; (try dsimp only at hSw); go_simp; (try with_reducible rfl))
        (try simp only [Act.put, List.setIfInBounds_toArray, List.set_cons_zero, List.set_cons_succ])
        refine wpAnyH_take (i := 6) (v := ?_) (by simp only [List.getElem?_toArray, List.getElem?_cons_succ, List.getElem?_cons_zero]; rfl) (by kernel_rfl) (by kernel_rfl) (by kernel_rfl) (by exact fun _ _ _ h => h) (Or.inl ⟨by rfl, ?_⟩) hHeld ?_
        rotate_left 1
        · (intro w hSw; (try dsimp only at hSw); go_simp; (try with_reducible rfl))
        (try simp only [Act.put, List.setIfInBounds_toArray, List.set_cons_zero, List.set_cons_succ])
        refine wpAnyH_take (i := 7) (v := ?_) (by simp only [List.getElem?_toArray, List.getElem?_cons_succ, List.getElem?_cons_zero]; rfl) (by kernel_rfl) (by kernel_rfl) (by kernel_rfl) (by exact fun _ _ _ h => h) (Or.inl ⟨by rfl, ?_⟩) hHeld ?_
        rotate_left 1
        · (intro w hSw; (try dsimp only at hSw); go_simp; (try with_reducible rfl))
        (try simp only [Act.put, List.setIfInBounds_toArray, List.set_cons_zero, List.set_cons_succ])
        refine wpAnyH_take (i := 8) (v := ?_) (by simp only [List.getElem?_toArray, List.getElem?_cons_succ, List.getElem?_cons_zero]; rfl) (by kernel_rfl) (by kernel_rfl) (by kernel_rfl) (by exact fun _ _ _ h => h) (Or.inl ⟨by rfl, ?_⟩) hHeld ?_
        rotate_left 1
        · (intro w hSw; (try dsimp only at hSw); go_simp; (try with_reducible rfl))
        (try simp only [Act.put, List.setIfInBounds_toArray, List.set_cons_zero, List.set_cons_succ])
        refine wpAnyH_take (i := 9) (v := ?_) (by simp only [List.getElem?_toArray, List.getElem?_cons_succ, List.getElem?_cons_zero]; rfl) (by kernel_rfl) (by kernel_rfl) (by kernel_rfl) (by exact fun _ _ _ h => h) (Or.inl ⟨by rfl, ?_⟩) hHeld ?_
        rotate_left 1
        · (intro w hSw; (try dsimp only at hSw); go_simp; (try with_reducible rfl))
        (try simp only [Act.put, List.setIfInBounds_toArray, List.set_cons_zero, List.set_cons_succ])
        refine wpAnyH_take (i := 10) (v := ?_) (by simp only [List.getElem?_toArray, List.getElem?_cons_succ, List.getElem?_cons_zero]; rfl) (by kernel_rfl) (by kernel_rfl) (by kernel_rfl) (by exact fun _ _ _ h => h) (Or.inl ⟨by rfl, ?_⟩) hHeld ?_
        rotate_left 1
        · (intro w hSw; (try dsimp only at hSw); go_simp; (try with_reducible rfl))
        (try simp only [Act.put, List.setIfInBounds_toArray, List.set_cons_zero, List.set_cons_succ])
        refine wpAnyH_ready (rs := [1, 11]) (by kernel_rfl) (by simp) ?_
        refine AllReadyH.cons (by simp only [List.getElem?_toArray, List.getElem?_cons_succ, List.getElem?_cons_zero]; rfl) (fun K hK => ?_) (AllReadyH.cons (by simp only [List.getElem?_toArray, List.getElem?_cons_succ, List.getElem?_cons_zero]; rfl) (fun K hK => ?_) AllReadyH.nil)
        · have gld := G2.out
          go_simp
          clear gld
          refine hK.out _ _ ?_ (fun hHeld => ?_)
          · exact ⟨x0, x1, x2⟩
          clear hK K
          (try simp only [Act.put, List.setIfInBounds_toArray, List.set_cons_zero, List.set_cons_succ])
          refine wpAnyH_ready (rs := [11]) (by kernel_rfl) (by simp) ?_
          refine AllReadyH.cons (by simp only [List.getElem?_toArray, List.getElem?_cons_succ, List.getElem?_cons_zero]; rfl) (fun K hK => ?_) AllReadyH.nil
          go_simp
          go_at_call 158
          refine (l6Rows_any 2 (cutA a cl at') (hi - at') (cl - at') (seg l at' hi) _ ⟨by decide, by decide⟩ ((HLL.out.below HBA.out.drew).cut hah (by omega) hcl) (by omega)).mono ?_
          rintro e w2 ⟨u, rfl, o2, b2⟩
          obtain ⟨ul, HUL⟩ : ∃ ul, Hid ((kR 2 (seg l at' hi)).length = ul) := ⟨_, rfl⟩
          obtain ⟨uA, uc, rfl, hu1, _⟩ := o2.form HUL.out
          have D2 := Lib.hid (show Below wa.heap.size wa w2 from (Below.refl _ wa).drew.next b2)
          have o2b := o2.more (show w.heap.size + 3 ≤ wa.drew.heap.size from OS.out.big)
          have OS2 := Lib.hid (OS.out.below D2.out)
          clear b2
          have X2 : w2.heap[X]? = some (.cells #[.int .i64 (at' : Int), .int .i64 (go : Int), .slice Az mz cz] 95 (0, 0)) := (D2.out.block _ (Array.getElem?_eq_some_iff.1 XO.out).1).trans XO.out
          refine hK.out _ _ ?_ (fun hHeld => ?_)
          · exact ⟨by simp [World.cell?, X2], by simp [World.cell?, X2], by simp [World.cell?, X2]⟩
          clear hK K
          (try simp only [Act.put, List.setIfInBounds_toArray, List.set_cons_zero, List.set_cons_succ])
          refine wpAnyH_ready (rs := [12]) (by kernel_rfl) (by simp) ?_
          refine AllReadyH.cons (by simp only [List.getElem?_toArray, List.getElem?_cons_succ, List.getElem?_cons_zero]; rfl) (fun K hK => ?_) AllReadyH.nil
          refine step_rws (.tmp 52) (.tmp 62) (w.heap.size + 3) v out1 OS2.out.own uA ul uc (kR 2 (seg l at' hi)) o2b (by have h1 := HO0.out; have h2 := HUL.out; rw [kR_len] at h2; have := LS2.out; omega) OS2.out.big rfl rfl rfl rfl ?_
          intro v3 w3 o3 g3 p3
          obtain ⟨vl, HVL⟩ : ∃ vl, Hid ((out1 ++ kR 2 (seg l at' hi)).length = vl) := ⟨_, rfl⟩
          obtain ⟨vA, vc, rfl, hv1, _⟩ := o3.form HVL.out
          have gg := OS2.out.grown g3
          rw [HGW.out] at gg
          have e2 : w3.cell? ⟨G, 2, none⟩ = some v := by simp [World.cell?, gg.2.2.1]
          have f2 : ∀ j, w3.frozen? ⟨G, j, none⟩ = false := fun j => by simp [World.frozen?, gg.2.2.1]
          have OS3 := Lib.hid (OS2.out.stored g3 o3)
          rw [HGW.out] at OS3
          have X3 : w3.heap[X]? = some (.cells #[.int .i64 (at' : Int), .int .i64 (go : Int), .slice Az mz cz] 95 (0, 0)) := x_grown X2 g3 HNE.out
          have X4 : (w3.setCell ⟨G, 2, none⟩ (.slice vA vl vc)).heap[X]? = some (.cells #[.int .i64 (at' : Int), .int .i64 (go : Int), .slice Az mz cz] 95 (0, 0)) := x_stored X3 hGX.out
          have NE3 := ne_grown HNE.out p3 (Array.getElem?_eq_some_iff.1 X2).1
          refine hK.out _ _ ?_ (fun hHeld => ?_)
          · exact ⟨by simp [World.cell?, X3], by simp [World.cell?, X3], by simp [World.cell?, X3]⟩
          clear hK K
          (try simp only [Act.put, List.setIfInBounds_toArray, List.set_cons_zero, List.set_cons_succ])
          refine wpAnyH_take (i := 13) (v := ?_) (by simp only [List.getElem?_toArray, List.getElem?_cons_succ, List.getElem?_cons_zero]; rfl) (by kernel_rfl) (by kernel_rfl) (by kernel_rfl) (by exact fun _ _ _ h => h) (Or.inl ⟨by rfl, ?_⟩) hHeld ?_
          rotate_left 1
          · (intro w hSw; (try dsimp only at hSw); go_simp; (try with_reducible rfl))
          (try simp only [Act.put, List.setIfInBounds_toArray, List.set_cons_zero, List.set_cons_succ])
          refine wpAnyH_ready (rs := [14]) (by kernel_rfl) (by simp) ?_
          refine AllReadyH.cons (by simp only [List.getElem?_toArray, List.getElem?_cons_succ, List.getElem?_cons_zero]; rfl) (fun K hK => ?_) AllReadyH.nil
          go_simp
          refine hK.out _ _ ?_ (fun hHeld => ?_)
          · exact ⟨by simp [World.cell?, X4], by simp [World.cell?, X4], by simp [World.cell?, X4]⟩
          clear hK K
          (try simp only [Act.put, List.setIfInBounds_toArray, List.set_cons_zero, List.set_cons_succ])
          refine wpAnyH_done (by kernel_rfl) ?_ _
          clear hHeld
          go_wp2_with fail
          go_meet
          case rel => exact ⟨_, OS3.out, X4, NE3⟩
        · go_simp
          go_at_call 158
          refine (l6Rows_any 2 (cutA a cl at') (hi - at') (cl - at') (seg l at' hi) _ ⟨by decide, by decide⟩ ((HLL.out.below HBA.out.drew).cut hah (by omega) hcl) (by omega)).mono ?_
          rintro e w2 ⟨u, rfl, o2, b2⟩
          obtain ⟨ul, HUL⟩ : ∃ ul, Hid ((kR 2 (seg l at' hi)).length = ul) := ⟨_, rfl⟩
          obtain ⟨uA, uc, rfl, hu1, _⟩ := o2.form HUL.out
          have D2 := Lib.hid (show Below wa.heap.size wa w2 from (Below.refl _ wa).drew.next b2)
          have o2b := o2.more (show w.heap.size + 3 ≤ wa.drew.heap.size from OS.out.big)
          have OS2 := Lib.hid (OS.out.below D2.out)
          clear b2
          have X2 : w2.heap[X]? = some (.cells #[.int .i64 (at' : Int), .int .i64 (go : Int), .slice Az mz cz] 95 (0, 0)) := (D2.out.block _ (Array.getElem?_eq_some_iff.1 XO.out).1).trans XO.out
          refine hK.out _ _ ?_ (fun hHeld => ?_)
          · exact ⟨by simp [World.cell?, X2], by simp [World.cell?, X2], by simp [World.cell?, X2]⟩
          clear hK K
          (try simp only [Act.put, List.setIfInBounds_toArray, List.set_cons_zero, List.set_cons_succ])
          refine wpAnyH_ready (rs := [1]) (by kernel_rfl) (by simp) ?_
          refine AllReadyH.cons (by simp only [List.getElem?_toArray, List.getElem?_cons_succ, List.getElem?_cons_zero]; rfl) (fun K hK => ?_) AllReadyH.nil
          have gld := cell_keep D2.out G2.out
          go_simp
          clear gld
          refine hK.out _ _ ?_ (fun hHeld => ?_)
          · exact ⟨by simp [World.cell?, X2], by simp [World.cell?, X2], by simp [World.cell?, X2]⟩
          clear hK K
          (try simp only [Act.put, List.setIfInBounds_toArray, List.set_cons_zero, List.set_cons_succ])
          refine wpAnyH_ready (rs := [12]) (by kernel_rfl) (by simp) ?_
          refine AllReadyH.cons (by simp only [List.getElem?_toArray, List.getElem?_cons_succ, List.getElem?_cons_zero]; rfl) (fun K hK => ?_) AllReadyH.nil
          refine step_rws (.tmp 52) (.tmp 62) (w.heap.size + 3) v out1 OS2.out.own uA ul uc (kR 2 (seg l at' hi)) o2b (by have h1 := HO0.out; have h2 := HUL.out; rw [kR_len] at h2; have := LS2.out; omega) OS2.out.big rfl rfl rfl rfl ?_
          intro v3 w3 o3 g3 p3
          obtain ⟨vl, HVL⟩ : ∃ vl, Hid ((out1 ++ kR 2 (seg l at' hi)).length = vl) := ⟨_, rfl⟩
          obtain ⟨vA, vc, rfl, hv1, _⟩ := o3.form HVL.out
          have gg := OS2.out.grown g3
          rw [HGW.out] at gg
          have e2 : w3.cell? ⟨G, 2, none⟩ = some v := by simp [World.cell?, gg.2.2.1]
          have f2 : ∀ j, w3.frozen? ⟨G, j, none⟩ = false := fun j => by simp [World.frozen?, gg.2.2.1]
          have OS3 := Lib.hid (OS2.out.stored g3 o3)
          rw [HGW.out] at OS3
          have X3 : w3.heap[X]? = some (.cells #[.int .i64 (at' : Int), .int .i64 (go : Int), .slice Az mz cz] 95 (0, 0)) := x_grown X2 g3 HNE.out
          have X4 : (w3.setCell ⟨G, 2, none⟩ (.slice vA vl vc)).heap[X]? = some (.cells #[.int .i64 (at' : Int), .int .i64 (go : Int), .slice Az mz cz] 95 (0, 0)) := x_stored X3 hGX.out
          have NE3 := ne_grown HNE.out p3 (Array.getElem?_eq_some_iff.1 X2).1
          refine hK.out _ _ ?_ (fun hHeld => ?_)
          · exact ⟨by simp [World.cell?, X3], by simp [World.cell?, X3], by simp [World.cell?, X3]⟩
          clear hK K
          (try simp only [Act.put, List.setIfInBounds_toArray, List.set_cons_zero, List.set_cons_succ])
          refine wpAnyH_take (i := 13) (v := ?_) (by simp only [List.getElem?_toArray, List.getElem?_cons_succ, List.getElem?_cons_zero]; rfl) (by kernel_rfl) (by kernel_rfl) (by kernel_rfl) (by exact fun _ _ _ h => h) (Or.inl ⟨by rfl, ?_⟩) hHeld ?_
          rotate_left 1
          · (intro w hSw; (try dsimp only at hSw); go_simp; (try with_reducible rfl))
          (try simp only [Act.put, List.setIfInBounds_toArray, List.set_cons_zero, List.set_cons_succ])
          refine wpAnyH_ready (rs := [14]) (by kernel_rfl) (by simp) ?_
          refine AllReadyH.cons (by simp only [List.getElem?_toArray, List.getElem?_cons_succ, List.getElem?_cons_zero]; rfl) (fun K hK => ?_) AllReadyH.nil
          go_simp
          refine hK.out _ _ ?_ (fun hHeld => ?_)
          · exact ⟨by simp [World.cell?, X4], by simp [World.cell?, X4], by simp [World.cell?, X4]⟩
          clear hK K
          (try simp only [Act.put, List.setIfInBounds_toArray, List.set_cons_zero, List.set_cons_succ])
          refine wpAnyH_done (by kernel_rfl) ?_ _
          clear hHeld
          go_wp2_with fail
          go_meet
          case rel => exact ⟨_, OS3.out, X4, NE3⟩
      case rest => as_aux_lemma =>
      obtain ⟨v, os', xo', ne'⟩ := hcut
      clear OS XO HNE HO0 HBA
      obtain ⟨wa, hwa⟩ : ∃ wa, wa = wc := ⟨_, rfl⟩
      subst hwa
      obtain ⟨out2, Hout2⟩ : ∃ o, Hid (out1 ++ kR 2 (seg l at' hi) = o) := ⟨_, rfl⟩
      rw [Hout2.out] at os'
      have OS := Lib.hid os'
      have XO := Lib.hid xo'
      have HNE := Lib.hid ne'
      have HBA := Lib.hid os'.low
      have HO0 := Lib.hid (show out2.length ≤ 2480 by rw [← Hout2.out, List.length_append, kR_len]; have := LS2.out;  have := Lout1; omega)
      have Lout2 := HO0.out
      clear os' xo' ne'
      go_upto_region 10 with fail
      go_cut [] (fun wx => ∃ v', OneSt w wx Y (F : Int) T v' (out2 ++ kR 3 (zn)) ∧ wx.heap[X]? = some (.cells #[.int .i64 (at' : Int), .int .i64 (go : Int), .slice Az mz cz] 95 (0, 0)) ∧ v'.ownBlock ≠ some X)
      case first => as_aux_lemma =>
        have x0 : wa.cell? ⟨X, 0, none⟩ = some (.int .i64 (at' : Int)) := by simp [World.cell?, XO.out]
        have x1 : wa.cell? ⟨X, 1, none⟩ = some (.int .i64 (go : Int)) := by simp [World.cell?, XO.out]
        have x2 : wa.cell? ⟨X, 2, none⟩ = some (.slice Az mz cz) := by simp [World.cell?, XO.out]
        have G2 := Lib.hid (show wa.cell? ⟨G, 2, none⟩ = some v by rw [← HGW.out]; exact OS.out.rows.1)
        go_wp2
        refine wp_region_held_drew (S := fun w' => w'.cell? ⟨X, 0, none⟩ = some (.int .i64 (at' : Int)) ∧ w'.cell? ⟨X, 1, none⟩ = some (.int .i64 (go : Int)) ∧ w'.cell? ⟨X, 2, none⟩ = some (.slice Az mz cz)) (by kernel_rfl) ?_ (fun hHeld => ?_)
        · exact ⟨x0, x1, x2⟩
        refine wpAnyH_take (i := 0) (v := ?_) (by simp only [List.getElem?_toArray, List.getElem?_cons_succ, List.getElem?_cons_zero]; rfl) (by kernel_rfl) (by kernel_rfl) (by kernel_rfl) (by exact fun _ _ _ h => h) (Or.inl ⟨by rfl, ?_⟩) hHeld ?_
        rotate_left 1
        · (intro w hSw; (try dsimp only at hSw); go_simp; (try with_reducible rfl))
        (try simp only [Act.put, List.setIfInBounds_toArray, List.set_cons_zero, List.set_cons_succ])
        refine wpAnyH_take (i := 2) (v := ?_) (by simp only [List.getElem?_toArray, List.getElem?_cons_succ, List.getElem?_cons_zero]; rfl) (by kernel_rfl) (by kernel_rfl) (by kernel_rfl) (by exact fun _ _ _ h => h) (Or.inl ⟨by rfl, ?_⟩) hHeld ?_
        rotate_left 1
        · (intro w hSw; (try dsimp only at hSw); go_simp; (try with_reducible rfl))
        (try simp only [Act.put, List.setIfInBounds_toArray, List.set_cons_zero, List.set_cons_succ])
        refine wpAnyH_take (i := 3) (v := ?_) (by simp only [List.getElem?_toArray, List.getElem?_cons_succ, List.getElem?_cons_zero]; rfl) (by kernel_rfl) (by kernel_rfl) (by kernel_rfl) (by exact fun _ _ _ h => h) (Or.inl ⟨by rfl, ?_⟩) hHeld ?_
        rotate_left 1
        · (intro w hSw; (try dsimp only at hSw); go_simp; (try with_reducible rfl))
        (try simp only [Act.put, List.setIfInBounds_toArray, List.set_cons_zero, List.set_cons_succ])
        refine wpAnyH_ready (rs := [1, 4]) (by kernel_rfl) (by simp) ?_
        refine AllReadyH.cons (by simp only [List.getElem?_toArray, List.getElem?_cons_succ, List.getElem?_cons_zero]; rfl) (fun K hK => ?_) (AllReadyH.cons (by simp only [List.getElem?_toArray, List.getElem?_cons_succ, List.getElem?_cons_zero]; rfl) (fun K hK => ?_) AllReadyH.nil)
        · have gld := G2.out
          go_simp
          clear gld
          refine hK.out _ _ ?_ (fun hHeld => ?_)
          · exact ⟨x0, x1, x2⟩
          clear hK K
          (try simp only [Act.put, List.setIfInBounds_toArray, List.set_cons_zero, List.set_cons_succ])
          refine wpAnyH_ready (rs := [4]) (by kernel_rfl) (by simp) ?_
          refine AllReadyH.cons (by simp only [List.getElem?_toArray, List.getElem?_cons_succ, List.getElem?_cons_zero]; rfl) (fun K hK => ?_) AllReadyH.nil
          go_simp
          go_at_call 158
          refine (l6Rows_any 3 Az mz cz zn _ ⟨by decide, by decide⟩ (HST.out.below HBA.out.drew) (by omega)).mono ?_
          rintro e w2 ⟨u, rfl, o2, b2⟩
          obtain ⟨ul, HUL⟩ : ∃ ul, Hid ((kR 3 (zn)).length = ul) := ⟨_, rfl⟩
          obtain ⟨uA, uc, rfl, hu1, _⟩ := o2.form HUL.out
          have D2 := Lib.hid (show Below wa.heap.size wa w2 from (Below.refl _ wa).drew.next b2)
          have o2b := o2.more (show w.heap.size + 3 ≤ wa.drew.heap.size from OS.out.big)
          have OS2 := Lib.hid (OS.out.below D2.out)
          clear b2
          have X2 : w2.heap[X]? = some (.cells #[.int .i64 (at' : Int), .int .i64 (go : Int), .slice Az mz cz] 95 (0, 0)) := (D2.out.block _ (Array.getElem?_eq_some_iff.1 XO.out).1).trans XO.out
          refine hK.out _ _ ?_ (fun hHeld => ?_)
          · exact ⟨by simp [World.cell?, X2], by simp [World.cell?, X2], by simp [World.cell?, X2]⟩
          clear hK K
          (try simp only [Act.put, List.setIfInBounds_toArray, List.set_cons_zero, List.set_cons_succ])
          refine wpAnyH_ready (rs := [5]) (by kernel_rfl) (by simp) ?_
          refine AllReadyH.cons (by simp only [List.getElem?_toArray, List.getElem?_cons_succ, List.getElem?_cons_zero]; rfl) (fun K hK => ?_) AllReadyH.nil
          refine step_rws (.tmp 66) (.tmp 69) (w.heap.size + 3) v out2 OS2.out.own uA ul uc (kR 3 (zn)) o2b (by have h1 := HO0.out; have h2 := HUL.out; rw [kR_len] at h2; have := HM.out; omega) OS2.out.big rfl rfl rfl rfl ?_
          intro v3 w3 o3 g3 p3
          obtain ⟨vl, HVL⟩ : ∃ vl, Hid ((out2 ++ kR 3 (zn)).length = vl) := ⟨_, rfl⟩
          obtain ⟨vA, vc, rfl, hv1, _⟩ := o3.form HVL.out
          have gg := OS2.out.grown g3
          rw [HGW.out] at gg
          have e2 : w3.cell? ⟨G, 2, none⟩ = some v := by simp [World.cell?, gg.2.2.1]
          have f2 : ∀ j, w3.frozen? ⟨G, j, none⟩ = false := fun j => by simp [World.frozen?, gg.2.2.1]
          have OS3 := Lib.hid (OS2.out.stored g3 o3)
          rw [HGW.out] at OS3
          have X3 : w3.heap[X]? = some (.cells #[.int .i64 (at' : Int), .int .i64 (go : Int), .slice Az mz cz] 95 (0, 0)) := x_grown X2 g3 HNE.out
          have X4 : (w3.setCell ⟨G, 2, none⟩ (.slice vA vl vc)).heap[X]? = some (.cells #[.int .i64 (at' : Int), .int .i64 (go : Int), .slice Az mz cz] 95 (0, 0)) := x_stored X3 hGX.out
          have NE3 := ne_grown HNE.out p3 (Array.getElem?_eq_some_iff.1 X2).1
          refine hK.out _ _ ?_ (fun hHeld => ?_)
          · exact ⟨by simp [World.cell?, X3], by simp [World.cell?, X3], by simp [World.cell?, X3]⟩
          clear hK K
          (try simp only [Act.put, List.setIfInBounds_toArray, List.set_cons_zero, List.set_cons_succ])
          refine wpAnyH_take (i := 6) (v := ?_) (by simp only [List.getElem?_toArray, List.getElem?_cons_succ, List.getElem?_cons_zero]; rfl) (by kernel_rfl) (by kernel_rfl) (by kernel_rfl) (by exact fun _ _ _ h => h) (Or.inl ⟨by rfl, ?_⟩) hHeld ?_
          rotate_left 1
          · (intro w hSw; (try dsimp only at hSw); go_simp; (try with_reducible rfl))
          (try simp only [Act.put, List.setIfInBounds_toArray, List.set_cons_zero, List.set_cons_succ])
          refine wpAnyH_ready (rs := [7]) (by kernel_rfl) (by simp) ?_
          refine AllReadyH.cons (by simp only [List.getElem?_toArray, List.getElem?_cons_succ, List.getElem?_cons_zero]; rfl) (fun K hK => ?_) AllReadyH.nil
          go_simp
          refine hK.out _ _ ?_ (fun hHeld => ?_)
          · exact ⟨by simp [World.cell?, X4], by simp [World.cell?, X4], by simp [World.cell?, X4]⟩
          clear hK K
          (try simp only [Act.put, List.setIfInBounds_toArray, List.set_cons_zero, List.set_cons_succ])
          refine wpAnyH_done (by kernel_rfl) ?_ _
          clear hHeld
          go_wp2_with fail
          go_meet
          case rel => exact ⟨_, OS3.out, X4, NE3⟩
        · go_simp
          go_at_call 158
          refine (l6Rows_any 3 Az mz cz zn _ ⟨by decide, by decide⟩ (HST.out.below HBA.out.drew) (by omega)).mono ?_
          rintro e w2 ⟨u, rfl, o2, b2⟩
          obtain ⟨ul, HUL⟩ : ∃ ul, Hid ((kR 3 (zn)).length = ul) := ⟨_, rfl⟩
          obtain ⟨uA, uc, rfl, hu1, _⟩ := o2.form HUL.out
          have D2 := Lib.hid (show Below wa.heap.size wa w2 from (Below.refl _ wa).drew.next b2)
          have o2b := o2.more (show w.heap.size + 3 ≤ wa.drew.heap.size from OS.out.big)
          have OS2 := Lib.hid (OS.out.below D2.out)
          clear b2
          have X2 : w2.heap[X]? = some (.cells #[.int .i64 (at' : Int), .int .i64 (go : Int), .slice Az mz cz] 95 (0, 0)) := (D2.out.block _ (Array.getElem?_eq_some_iff.1 XO.out).1).trans XO.out
          refine hK.out _ _ ?_ (fun hHeld => ?_)
          · exact ⟨by simp [World.cell?, X2], by simp [World.cell?, X2], by simp [World.cell?, X2]⟩
          clear hK K
          (try simp only [Act.put, List.setIfInBounds_toArray, List.set_cons_zero, List.set_cons_succ])
          refine wpAnyH_ready (rs := [1]) (by kernel_rfl) (by simp) ?_
          refine AllReadyH.cons (by simp only [List.getElem?_toArray, List.getElem?_cons_succ, List.getElem?_cons_zero]; rfl) (fun K hK => ?_) AllReadyH.nil
          have gld := cell_keep D2.out G2.out
          go_simp
          clear gld
          refine hK.out _ _ ?_ (fun hHeld => ?_)
          · exact ⟨by simp [World.cell?, X2], by simp [World.cell?, X2], by simp [World.cell?, X2]⟩
          clear hK K
          (try simp only [Act.put, List.setIfInBounds_toArray, List.set_cons_zero, List.set_cons_succ])
          refine wpAnyH_ready (rs := [5]) (by kernel_rfl) (by simp) ?_
          refine AllReadyH.cons (by simp only [List.getElem?_toArray, List.getElem?_cons_succ, List.getElem?_cons_zero]; rfl) (fun K hK => ?_) AllReadyH.nil
          refine step_rws (.tmp 66) (.tmp 69) (w.heap.size + 3) v out2 OS2.out.own uA ul uc (kR 3 (zn)) o2b (by have h1 := HO0.out; have h2 := HUL.out; rw [kR_len] at h2; have := HM.out; omega) OS2.out.big rfl rfl rfl rfl ?_
          intro v3 w3 o3 g3 p3
          obtain ⟨vl, HVL⟩ : ∃ vl, Hid ((out2 ++ kR 3 (zn)).length = vl) := ⟨_, rfl⟩
          obtain ⟨vA, vc, rfl, hv1, _⟩ := o3.form HVL.out
          have gg := OS2.out.grown g3
          rw [HGW.out] at gg
          have e2 : w3.cell? ⟨G, 2, none⟩ = some v := by simp [World.cell?, gg.2.2.1]
          have f2 : ∀ j, w3.frozen? ⟨G, j, none⟩ = false := fun j => by simp [World.frozen?, gg.2.2.1]
          have OS3 := Lib.hid (OS2.out.stored g3 o3)
          rw [HGW.out] at OS3
          have X3 : w3.heap[X]? = some (.cells #[.int .i64 (at' : Int), .int .i64 (go : Int), .slice Az mz cz] 95 (0, 0)) := x_grown X2 g3 HNE.out
          have X4 : (w3.setCell ⟨G, 2, none⟩ (.slice vA vl vc)).heap[X]? = some (.cells #[.int .i64 (at' : Int), .int .i64 (go : Int), .slice Az mz cz] 95 (0, 0)) := x_stored X3 hGX.out
          have NE3 := ne_grown HNE.out p3 (Array.getElem?_eq_some_iff.1 X2).1
          refine hK.out _ _ ?_ (fun hHeld => ?_)
          · exact ⟨by simp [World.cell?, X3], by simp [World.cell?, X3], by simp [World.cell?, X3]⟩
          clear hK K
          (try simp only [Act.put, List.setIfInBounds_toArray, List.set_cons_zero, List.set_cons_succ])
          refine wpAnyH_take (i := 6) (v := ?_) (by simp only [List.getElem?_toArray, List.getElem?_cons_succ, List.getElem?_cons_zero]; rfl) (by kernel_rfl) (by kernel_rfl) (by kernel_rfl) (by exact fun _ _ _ h => h) (Or.inl ⟨by rfl, ?_⟩) hHeld ?_
          rotate_left 1
          · (intro w hSw; (try dsimp only at hSw); go_simp; (try with_reducible rfl))
          (try simp only [Act.put, List.setIfInBounds_toArray, List.set_cons_zero, List.set_cons_succ])
          refine wpAnyH_ready (rs := [7]) (by kernel_rfl) (by simp) ?_
          refine AllReadyH.cons (by simp only [List.getElem?_toArray, List.getElem?_cons_succ, List.getElem?_cons_zero]; rfl) (fun K hK => ?_) AllReadyH.nil
          go_simp
          refine hK.out _ _ ?_ (fun hHeld => ?_)
          · exact ⟨by simp [World.cell?, X4], by simp [World.cell?, X4], by simp [World.cell?, X4]⟩
          clear hK K
          (try simp only [Act.put, List.setIfInBounds_toArray, List.set_cons_zero, List.set_cons_succ])
          refine wpAnyH_done (by kernel_rfl) ?_ _
          clear hHeld
          go_wp2_with fail
          go_meet
          case rel => exact ⟨_, OS3.out, X4, NE3⟩
      case rest => as_aux_lemma =>
      obtain ⟨v, os', xo', ne'⟩ := hcut
      clear OS XO HNE HO0 HBA
      obtain ⟨wa, hwa⟩ : ∃ wa, wa = wc := ⟨_, rfl⟩
      subst hwa
      obtain ⟨out3, Hout3⟩ : ∃ o, Hid (out2 ++ kR 3 (zn) = o) := ⟨_, rfl⟩
      rw [Hout3.out] at os'
      have OS := Lib.hid os'
      have XO := Lib.hid xo'
      have HNE := Lib.hid ne'
      have HBA := Lib.hid os'.low
      have HO0 := Lib.hid (show out3.length ≤ 2520 by rw [← Hout3.out, List.length_append, kR_len]; have := HM.out;  have := Lout2; omega)
      have Lout3 := HO0.out
      clear os' xo' ne'
      have x0 : wa.cell? ⟨X, 0, none⟩ = some (.int .i64 (at' : Int)) := by simp [World.cell?, XO.out]
      have x1 : wa.cell? ⟨X, 1, none⟩ = some (.int .i64 (go : Int)) := by simp [World.cell?, XO.out]
      have HEND := Lib.hid (show out3 ++ rowsM l E hi (hs.drop (j + 1)) = rowsM l E F hs by
        have h5 := hstep.out
        try dsimp only at h5
        rw [Int.toNat_natCast, show ((at' : Int) + (go : Int)).toNat = hi from by rw [Hhi.out]; omega] at h5
        rw [← Hout3.out, ← Hout2.out, ← Hout1.out, ← HP.out, h5]
        simp only [List.append_assoc])
      have HLEN := Lib.hid (show out3.length ≤ 120 * (j + 1) by
        rw [← Hout3.out, ← Hout2.out, ← Hout1.out]; simp only [List.length_append, kR_len, LS1.out, LS2.out, HM.out]; have := HO.out; omega)
      go_wp2
      go_roundw
      case rel => exact ⟨v, out3, j + 1, hi, by go_num, rfl, by omega, hhn, OS.out, HLEN.out, HREST.out, HEND.out⟩
      case measure => simp [intOf]; omega
    · have hlst := OS0.out.lst
      rw [HLW.out, ← HY.out] at hlst
      have y0 : wr.cell? ⟨LB, 0, none⟩ = some (.int .i64 ya) := by simp [World.cell?, hlst]
      have y1 : wr.cell? ⟨LB, 1, none⟩ = some (.int .i64 yg) := by simp [World.cell?, hlst]
      have hcut := cut_strs a nl cl p E hp (by omega)
      have hfin := Lib.hid (show out ++ kR 1 (seg l p E) = rowsM l E F hs by rw [← HP.out, rowsM_end (by rw [HN.out]; omega)])
      have hlen0 : out.length ≤ 2400 := by have := HO.out; omega
      have HO0 := Lib.hid hlen0
      have LS1 := Lib.hid (seg_len l p E)
      clear hlst
      go_wp2_with fail
      refine (l1LeastH_any _ _ _).mono ?_
      rintro e w' ⟨rfl, rfl⟩
      rw [HME.out]
      go_wp2
      clear y0 y1
      obtain ⟨wa, hwa⟩ : ∃ wa, wa = wr := ⟨_, rfl⟩
      subst hwa
      have OS := Lib.hid OS0.out
      have HBA := Lib.hid OS0.out.low
      have G2 := Lib.hid (show wa.cell? ⟨G, 2, none⟩ = some v by rw [← HGW.out]; exact OS.out.rows.1)
      refine wp_region_held_drew (S := fun _ => True) (by kernel_rfl) ?_ (fun hHeld => ?_)
      · exact trivial
      refine wpAnyH_take (i := 0) (v := ?_) (by simp only [List.getElem?_toArray, List.getElem?_cons_succ, List.getElem?_cons_zero]; rfl) (by kernel_rfl) (by kernel_rfl) (by kernel_rfl) (by exact fun _ _ _ h => h) (Or.inl ⟨by rfl, ?_⟩) hHeld ?_
      rotate_left 1
      · (intro w hSw; (try dsimp only at hSw); go_simp; (try with_reducible rfl))
      (try simp only [Act.put, List.setIfInBounds_toArray, List.set_cons_zero, List.set_cons_succ])
      refine wpAnyH_take (i := 2) (v := ?_) (by simp only [List.getElem?_toArray, List.getElem?_cons_succ, List.getElem?_cons_zero]; rfl) (by kernel_rfl) (by kernel_rfl) (by kernel_rfl) (by exact fun _ _ _ h => h) (Or.inl ⟨by rfl, ?_⟩) hHeld ?_
      rotate_left 1
      · (intro w hSw; (try dsimp only at hSw); go_simp; (try with_reducible rfl))
      (try simp only [Act.put, List.setIfInBounds_toArray, List.set_cons_zero, List.set_cons_succ])
      refine wpAnyH_take (i := 3) (v := ?_) (by simp only [List.getElem?_toArray, List.getElem?_cons_succ, List.getElem?_cons_zero]; rfl) (by kernel_rfl) (by kernel_rfl) (by kernel_rfl) (by exact fun _ _ _ h => h) (Or.inl ⟨by rfl, ?_⟩) hHeld ?_
      rotate_left 1
      · (intro w hSw; (try dsimp only at hSw); go_simp; (try with_reducible rfl))
      (try simp only [Act.put, List.setIfInBounds_toArray, List.set_cons_zero, List.set_cons_succ])
      refine wpAnyH_take (i := 4) (v := ?_) (by simp only [List.getElem?_toArray, List.getElem?_cons_succ, List.getElem?_cons_zero]; rfl) (by kernel_rfl) (by kernel_rfl) (by kernel_rfl) (by exact fun _ _ _ h => h) (Or.inl ⟨by rfl, ?_⟩) hHeld ?_
      rotate_left 1
      · (intro w hSw; (try dsimp only at hSw); go_simp; (try with_reducible rfl))
      (try simp only [Act.put, List.setIfInBounds_toArray, List.set_cons_zero, List.set_cons_succ])
      refine wpAnyH_take (i := 5) (v := ?_) (by simp only [List.getElem?_toArray, List.getElem?_cons_succ, List.getElem?_cons_zero]; rfl) (by kernel_rfl) (by kernel_rfl) (by kernel_rfl) (by exact fun _ _ _ h => h) (Or.inl ⟨by rfl, ?_⟩) hHeld ?_
      rotate_left 1
      · (intro w hSw; (try dsimp only at hSw); go_simp; (try with_reducible rfl))
      (try simp only [Act.put, List.setIfInBounds_toArray, List.set_cons_zero, List.set_cons_succ])
      refine wpAnyH_ready (rs := [1, 6]) (by kernel_rfl) (by simp) ?_
      refine AllReadyH.cons (by simp only [List.getElem?_toArray, List.getElem?_cons_succ, List.getElem?_cons_zero]; rfl) (fun K hK => ?_) (AllReadyH.cons (by simp only [List.getElem?_toArray, List.getElem?_cons_succ, List.getElem?_cons_zero]; rfl) (fun K hK => ?_) AllReadyH.nil)
      · have gld := G2.out
        go_simp
        clear gld
        refine hK.out _ _ ?_ (fun hHeld => ?_)
        · exact trivial
        clear hK K
        (try simp only [Act.put, List.setIfInBounds_toArray, List.set_cons_zero, List.set_cons_succ])
        refine wpAnyH_ready (rs := [6]) (by kernel_rfl) (by simp) ?_
        refine AllReadyH.cons (by simp only [List.getElem?_toArray, List.getElem?_cons_succ, List.getElem?_cons_zero]; rfl) (fun K hK => ?_) AllReadyH.nil
        go_simp
        go_at_call 158
        refine (l6Rows_any 1 (cutA a cl p) (E - p) (cl - p) (seg l p E) _ ⟨by decide, by decide⟩ ((HLL.out.below HBA.out.drew).cut hp (by omega) hcl) (by omega)).mono ?_
        rintro e w2 ⟨u, rfl, o2, b2⟩
        obtain ⟨ul, HUL⟩ : ∃ ul, Hid ((kR 1 (seg l p E)).length = ul) := ⟨_, rfl⟩
        obtain ⟨uA, uc, rfl, hu1, _⟩ := o2.form HUL.out
        have D2 := Lib.hid (show Below wa.heap.size wa w2 from (Below.refl _ wa).drew.next b2)
        have o2b := o2.more (show w.heap.size + 3 ≤ wa.drew.heap.size from OS.out.big)
        have OS2 := Lib.hid (OS.out.below D2.out)
        clear b2
        refine hK.out _ _ ?_ (fun hHeld => ?_)
        · exact trivial
        clear hK K
        (try simp only [Act.put, List.setIfInBounds_toArray, List.set_cons_zero, List.set_cons_succ])
        refine wpAnyH_ready (rs := [7]) (by kernel_rfl) (by simp) ?_
        refine AllReadyH.cons (by simp only [List.getElem?_toArray, List.getElem?_cons_succ, List.getElem?_cons_zero]; rfl) (fun K hK => ?_) AllReadyH.nil
        refine step_rws (.tmp 89) (.tmp 94) (w.heap.size + 3) v out OS2.out.own uA ul uc (kR 1 (seg l p E)) o2b (by have h1 := HO0.out; have h2 := HUL.out; rw [kR_len] at h2; have := LS1.out; omega) OS2.out.big rfl rfl rfl rfl ?_
        intro v3 w3 o3 g3 p3
        obtain ⟨vl, HVL⟩ : ∃ vl, Hid ((out ++ kR 1 (seg l p E)).length = vl) := ⟨_, rfl⟩
        obtain ⟨vA, vc, rfl, hv1, _⟩ := o3.form HVL.out
        have gg := OS2.out.grown g3
        rw [HGW.out] at gg
        have e2 : w3.cell? ⟨G, 2, none⟩ = some v := by simp [World.cell?, gg.2.2.1]
        have f2 : ∀ j, w3.frozen? ⟨G, j, none⟩ = false := fun j => by simp [World.frozen?, gg.2.2.1]
        have OS3 := Lib.hid (OS2.out.stored g3 o3)
        rw [HGW.out] at OS3
        refine hK.out _ _ ?_ (fun hHeld => ?_)
        · exact trivial
        clear hK K
        (try simp only [Act.put, List.setIfInBounds_toArray, List.set_cons_zero, List.set_cons_succ])
        refine wpAnyH_take (i := 8) (v := ?_) (by simp only [List.getElem?_toArray, List.getElem?_cons_succ, List.getElem?_cons_zero]; rfl) (by kernel_rfl) (by kernel_rfl) (by kernel_rfl) (by exact fun _ _ _ h => h) (Or.inl ⟨by rfl, ?_⟩) hHeld ?_
        rotate_left 1
        · (intro w hSw; (try dsimp only at hSw); go_simp; (try with_reducible rfl))
        (try simp only [Act.put, List.setIfInBounds_toArray, List.set_cons_zero, List.set_cons_succ])
        refine wpAnyH_ready (rs := [9]) (by kernel_rfl) (by simp) ?_
        refine AllReadyH.cons (by simp only [List.getElem?_toArray, List.getElem?_cons_succ, List.getElem?_cons_zero]; rfl) (fun K hK => ?_) AllReadyH.nil
        go_simp
        refine hK.out _ _ ?_ (fun hHeld => ?_)
        · exact trivial
        clear hK K
        (try simp only [Act.put, List.setIfInBounds_toArray, List.set_cons_zero, List.set_cons_succ])
        refine wpAnyH_done (by kernel_rfl) ?_ _
        clear hHeld
        obtain ⟨w4, HW4⟩ : ∃ w4, Hid (w4 = w3.setCell ⟨G, 2, none⟩ (.slice vA vl vc)) := ⟨_, rfl⟩
        rw [← HW4.out] at OS3 ⊢
        have hgrp := OS3.out.grp
        have hres := OS3.out.res
        rw [HGW.out] at hgrp
        have g0 : w4.cell? ⟨G, 0, none⟩ = some (.int .i64 (F : Int)) := by simp [World.cell?, hgrp]
        have g1 : w4.cell? ⟨G, 1, none⟩ = some (.int .i64 T) := by simp [World.cell?, hgrp]
        have g2 : w4.cell? ⟨G, 2, none⟩ = some (.slice vA vl vc) := by simp [World.cell?, hgrp]
        have r0 : w4.cell? ⟨w.heap.size, 0, none⟩ = some (.int .i64 0) := by simp [World.cell?, hres]
        have r1 : w4.cell? ⟨w.heap.size, 1, none⟩ = some (.int .i64 0) := by simp [World.cell?, hres]
        have r2 : w4.cell? ⟨w.heap.size, 2, none⟩ = some (.slice none 0 0) := by simp [World.cell?, hres]
        have rf : ∀ j, w4.frozen? ⟨w.heap.size, j, none⟩ = false := fun j => by simp [World.frozen?, hres]
        have hown : OwnRw w4 (w.heap.size + 3) (.slice vA vl vc) (rowsM l E F hs) := by have h5 := OS3.out.own; rw [hfin.out] at h5; exact h5
        have hlow := OS3.out.low
        clear hgrp hres e2 f2
        go_wp2
        (try simp only [Exit.inBlock, Exit.then])
        refine bodyPost_ret (v := .agg #[.int .i64 (F : Int), .int .i64 T, .slice vA vl vc]) (by simp [results, Tryz.results138, go_sem, r0, r1, r2]) rfl ?_
        refine ⟨_, by rw [HT.out], ?_, ?_⟩
        · exact (((hown.setBelow (by simp) _).setBelow (by simp) _).setBelow (by simp) _).more (by omega)
        · exact ((hlow.setCell (by simp) _).setCell (by simp) _).setCell (by simp) _
      · go_simp
        go_at_call 158
        refine (l6Rows_any 1 (cutA a cl p) (E - p) (cl - p) (seg l p E) _ ⟨by decide, by decide⟩ ((HLL.out.below HBA.out.drew).cut hp (by omega) hcl) (by omega)).mono ?_
        rintro e w2 ⟨u, rfl, o2, b2⟩
        obtain ⟨ul, HUL⟩ : ∃ ul, Hid ((kR 1 (seg l p E)).length = ul) := ⟨_, rfl⟩
        obtain ⟨uA, uc, rfl, hu1, _⟩ := o2.form HUL.out
        have D2 := Lib.hid (show Below wa.heap.size wa w2 from (Below.refl _ wa).drew.next b2)
        have o2b := o2.more (show w.heap.size + 3 ≤ wa.drew.heap.size from OS.out.big)
        have OS2 := Lib.hid (OS.out.below D2.out)
        clear b2
        refine hK.out _ _ ?_ (fun hHeld => ?_)
        · exact trivial
        clear hK K
        (try simp only [Act.put, List.setIfInBounds_toArray, List.set_cons_zero, List.set_cons_succ])
        refine wpAnyH_ready (rs := [1]) (by kernel_rfl) (by simp) ?_
        refine AllReadyH.cons (by simp only [List.getElem?_toArray, List.getElem?_cons_succ, List.getElem?_cons_zero]; rfl) (fun K hK => ?_) AllReadyH.nil
        have gld := cell_keep D2.out G2.out
        go_simp
        clear gld
        refine hK.out _ _ ?_ (fun hHeld => ?_)
        · exact trivial
        clear hK K
        (try simp only [Act.put, List.setIfInBounds_toArray, List.set_cons_zero, List.set_cons_succ])
        refine wpAnyH_ready (rs := [7]) (by kernel_rfl) (by simp) ?_
        refine AllReadyH.cons (by simp only [List.getElem?_toArray, List.getElem?_cons_succ, List.getElem?_cons_zero]; rfl) (fun K hK => ?_) AllReadyH.nil
        refine step_rws (.tmp 89) (.tmp 94) (w.heap.size + 3) v out OS2.out.own uA ul uc (kR 1 (seg l p E)) o2b (by have h1 := HO0.out; have h2 := HUL.out; rw [kR_len] at h2; have := LS1.out; omega) OS2.out.big rfl rfl rfl rfl ?_
        intro v3 w3 o3 g3 p3
        obtain ⟨vl, HVL⟩ : ∃ vl, Hid ((out ++ kR 1 (seg l p E)).length = vl) := ⟨_, rfl⟩
        obtain ⟨vA, vc, rfl, hv1, _⟩ := o3.form HVL.out
        have gg := OS2.out.grown g3
        rw [HGW.out] at gg
        have e2 : w3.cell? ⟨G, 2, none⟩ = some v := by simp [World.cell?, gg.2.2.1]
        have f2 : ∀ j, w3.frozen? ⟨G, j, none⟩ = false := fun j => by simp [World.frozen?, gg.2.2.1]
        have OS3 := Lib.hid (OS2.out.stored g3 o3)
        rw [HGW.out] at OS3
        refine hK.out _ _ ?_ (fun hHeld => ?_)
        · exact trivial
        clear hK K
        (try simp only [Act.put, List.setIfInBounds_toArray, List.set_cons_zero, List.set_cons_succ])
        refine wpAnyH_take (i := 8) (v := ?_) (by simp only [List.getElem?_toArray, List.getElem?_cons_succ, List.getElem?_cons_zero]; rfl) (by kernel_rfl) (by kernel_rfl) (by kernel_rfl) (by exact fun _ _ _ h => h) (Or.inl ⟨by rfl, ?_⟩) hHeld ?_
        rotate_left 1
        · (intro w hSw; (try dsimp only at hSw); go_simp; (try with_reducible rfl))
        (try simp only [Act.put, List.setIfInBounds_toArray, List.set_cons_zero, List.set_cons_succ])
        refine wpAnyH_ready (rs := [9]) (by kernel_rfl) (by simp) ?_
        refine AllReadyH.cons (by simp only [List.getElem?_toArray, List.getElem?_cons_succ, List.getElem?_cons_zero]; rfl) (fun K hK => ?_) AllReadyH.nil
        go_simp
        refine hK.out _ _ ?_ (fun hHeld => ?_)
        · exact trivial
        clear hK K
        (try simp only [Act.put, List.setIfInBounds_toArray, List.set_cons_zero, List.set_cons_succ])
        refine wpAnyH_done (by kernel_rfl) ?_ _
        clear hHeld
        obtain ⟨w4, HW4⟩ : ∃ w4, Hid (w4 = w3.setCell ⟨G, 2, none⟩ (.slice vA vl vc)) := ⟨_, rfl⟩
        rw [← HW4.out] at OS3 ⊢
        have hgrp := OS3.out.grp
        have hres := OS3.out.res
        rw [HGW.out] at hgrp
        have g0 : w4.cell? ⟨G, 0, none⟩ = some (.int .i64 (F : Int)) := by simp [World.cell?, hgrp]
        have g1 : w4.cell? ⟨G, 1, none⟩ = some (.int .i64 T) := by simp [World.cell?, hgrp]
        have g2 : w4.cell? ⟨G, 2, none⟩ = some (.slice vA vl vc) := by simp [World.cell?, hgrp]
        have r0 : w4.cell? ⟨w.heap.size, 0, none⟩ = some (.int .i64 0) := by simp [World.cell?, hres]
        have r1 : w4.cell? ⟨w.heap.size, 1, none⟩ = some (.int .i64 0) := by simp [World.cell?, hres]
        have r2 : w4.cell? ⟨w.heap.size, 2, none⟩ = some (.slice none 0 0) := by simp [World.cell?, hres]
        have rf : ∀ j, w4.frozen? ⟨w.heap.size, j, none⟩ = false := fun j => by simp [World.frozen?, hres]
        have hown : OwnRw w4 (w.heap.size + 3) (.slice vA vl vc) (rowsM l E F hs) := by have h5 := OS3.out.own; rw [hfin.out] at h5; exact h5
        have hlow := OS3.out.low
        clear hgrp hres e2 f2
        go_wp2
        (try simp only [Exit.inBlock, Exit.then])
        refine bodyPost_ret (v := .agg #[.int .i64 (F : Int), .int .i64 T, .slice vA vl vc]) (by simp [results, Tryz.results138, go_sem, r0, r1, r2]) rfl ?_
        refine ⟨_, by rw [HT.out], ?_, ?_⟩
        · exact (((hown.setBelow (by simp) _).setBelow (by simp) _).setBelow (by simp) _).more (by omega)
        · exact ((hlow.setCell (by simp) _).setCell (by simp) _).setCell (by simp) _

end Go.Proofs.YtkamenidgkjodaaGreatDoor

namespace Go.Proofs.YtkamenidgkjodaaGreatDoor
open Go.RowKit Go.ChangeShapes Go.WideShapes M

set_option maxHeartbeats 8000000 in
set_option maxRecDepth 100000 in
theorem l6Groups_any (a : Option Addr) (nl cl : Nat) (l : List ByteArray) (b0 : Option Addr) (n c : Nat) (hs : List Hk) (W : Nat) (w : World) (hl : Strs w a nl l) (hcl : nl ≤ cl) (hh : Hks w b0 n hs) (hc : n ≤ c) (hg : goodH l.length hs = true) (hW : W ≤ 20) :
    Calls Tryz.prog 102 #[.slice a nl cl, .slice b0 n c, .int .i64 (W : Int)] w fun e w' => ∃ v vs, e = .returned v ∧ OwnGp w' w.heap.size v (groupsF l W hs.length 0 hs) vs ∧ Below w.heap.size w w' := by
  have HL := Lib.hid hl.len
  have HN := Lib.hid hh.len
  have HG := Lib.hid hg
  have hn20 : n ≤ 20 := by rw [← HN.out]; exact (goodH_parts hg).2.2.1
  have hnl40 : nl ≤ 40 := by have := (goodH_parts hg).2.1; have := HL.out; omega
  have HMB := Lib.hid (show ∀ y ∈ hs, 0 ≤ y.at_ ∧ y.at_ ≤ 40 ∧ 0 ≤ y.gone ∧ y.gone ≤ 40 ∧ y.new.length ≤ 40 from fun y hy => by have := goodH_mem hg hy; omega)
  have HMR := Lib.hid (show ∀ i, -800 ≤ moreH (hs.take i) ∧ moreH (hs.take i) ≤ 800 from fun i => by
    have h := moreH_bound (hs := hs.take i) (fun z hz => by have := HMB.out z (List.mem_of_mem_take hz); omega)
    rw [List.length_take] at h
    have := HN.out
    omega)
  clear hg
  go_enter Tryz.func102, Tryz.ntmps102
  go_wp2
  go_loopw [7, 8, 9] (fun lv mv i w' => ∃ (v : Value) (vs : List (List D)) (out : List Gp) (M0 : Int), ∃ i' f : Nat, v = lv ∧ i = .int .i64 (i' : Int) ∧ mv = .int .i64 M0 ∧ Hid (moreH (hs.take i') = M0) ∧ i' ≤ n ∧ OwnGp w' w.heap.size v out vs ∧ Hid (out.length ≤ i') ∧ n - i' ≤ f ∧ Hid (out ++ groupsF l W f (moreH (hs.take i')) (hs.drop i') = groupsF l W hs.length 0 hs) ∧ Below w.heap.size w w') (fun _ _ i _ => n - (intOf i).toNat)
  case atStart => exact ⟨_, [], [], 0, 0, n, rfl, rfl, rfl, rfl, by omega, OwnGp.nil_, Nat.le_refl _, by omega, by rw [HN.out]; rfl, Below.refl _ _⟩
  case round =>
    obtain ⟨v, vs, out, M0, i, f, rfl, rfl, rfl, HM0, hi, ho, HO, hfu, HP, hb⟩ := hrel
    by_cases hlt : i < n
    · obtain ⟨b, off, A, m, c', x, rfl, hx, c0, c1, c2, hst, hmc, i0, i1⟩ := hh.at_ hlt
      obtain ⟨k, f', y, hk, hfu2, hk1, hkn, hgap2, hy, hG⟩ := group_step (l := l) (W := W) (f := f) hx (by rw [HN.out]; exact hfu)
      rw [HN.out] at hfu2 hkn
      obtain ⟨gr1, gr2, gr3, gr4⟩ := group_rest (W := W) HG.out (show ((l.length : Nat) : Int) = ((nl : Nat) : Int) by rw [HL.out]) hx hk1 hy
      obtain ⟨F, HF⟩ : ∃ F, Hid (fromN W x = F) := ⟨_, rfl⟩
      obtain ⟨E, HE⟩ : ∃ E, Hid (endN nl W y = E) := ⟨_, rfl⟩
      obtain ⟨nx, HNX⟩ : ∃ nx, Hid (i + k = nx) := ⟨_, rfl⟩
      have hM := HMR.out i
      rw [HM0.out] at hM
      obtain ⟨hM0, hM1⟩ := hM
      rw [HF.out, HE.out] at gr2
      rw [HE.out] at gr1 gr4
      rw [HF.out, HE.out] at gr3
      rw [HL.out, HE.out, HF.out, HM0.out, HNX.out] at hG
      have hy0 := hy
      rw [HNX.out] at hfu2 hkn hy
      have hn1 : 1 ≤ nx := by have := HNX.out; omega
      have hin : i < nx := by have := HNX.out; omega
      have HKK := Lib.hid hk
      have HG2 := Lib.hid hG
      have HGR2 := Lib.hid gr2
      have HST := Lib.hid hh
      have HLL := Lib.hid hl
      have HXX := Lib.hid hx
      have HYY := Lib.hid hy
      have HFB := Lib.hid (show F ≤ 40 by omega)
      clear hy hy0 hk hG gr1 gr2 hgap2 c0 c1 c2 hst i0 i1 hmc
      go_wp2
      go_loopw [10] (fun q w' => ∃ jj : Nat, q = .int .i64 (jj : Int) ∧ i + 1 ≤ jj ∧ jj ≤ n ∧ Hid (∃ z, hs[jj - 1]? = some z ∧ runF W x (hs.drop (i + 1)) = (jj - (i + 1)) + runF W z (hs.drop jj)) ∧ Below wr.heap.size wr w') (fun q _ => n - (intOf q).toNat)
      case atStart => exact ⟨i + 1, by go_num, by omega, by omega, ⟨x, by rw [Nat.add_sub_cancel]; exact HXX.out, by omega⟩, Below.refl _ _⟩
      case round =>
        rename World => wq
        obtain ⟨jj, rfl, hj1, hj2, HJ, hbq⟩ := hrel
        have hbw := hb.next hbq
        have s4 : IntKind.i64.wrap (2 * (W : Int)) = 2 * (W : Int) := by rw [IntKind.wrap_i64]; omega
        by_cases hjn : jj < n
        · obtain ⟨bz, oz, Az, mz, cz, z, hbz, hz, z0, z1, z2, _, _, _, _⟩ := (HST.out.below hbw).at_ hjn
          obtain ⟨bp, op, Ap, mp, cp, p, hbp, hp, p0, p1, p2, _, _, _, _⟩ := (HST.out.below hbw).at_ (show jj - 1 < n by omega)
          injection hbz with hbz
          injection hbz with hbz1 hbz2
          subst hbz1 hbz2
          injection hbp with hbp
          injection hbp with hbp1 hbp2
          subst hbp1 hbp2
          have hzb := HMB.out z (List.mem_of_getElem? hz)
          have hpb := HMB.out p (List.mem_of_getElem? hp)
          have HRUN := Lib.hid (show runF W x (hs.drop (i + 1)) = (jj - (i + 1)) + (if z.at_ - p.at_ - p.gone ≤ 2 * (W : Int) then runF W z (hs.drop (jj + 1)) + 1 else 0) by
            obtain ⟨p', hp', e⟩ := HJ.out
            rw [hp] at hp'
            injection hp' with hp'
            subst hp'
            rw [e, drop_at hz]
            rfl)
          have HZ := Lib.hid hz
          obtain ⟨za0, za1, zg0, zg1, _⟩ := hzb
          obtain ⟨pa0, pa1, pg0, pg1, _⟩ := hpb
          obtain ⟨za, zg, zn⟩ := z
          obtain ⟨pa, pg, pn⟩ := p
          dsimp only at *
          have s1 : IntKind.i64.wrap ((jj : Int) - 1) = (jj : Int) - 1 := by rw [IntKind.wrap_i64]; omega
          have s2 : IntKind.i64.wrap (pa + pg) = pa + pg := by rw [IntKind.wrap_i64]; omega
          have s3 : IntKind.i64.wrap (za - (pa + pg)) = za - (pa + pg) := by rw [IntKind.wrap_i64]; omega
          have j0 : (0 : Int) ≤ (jj : Int) - 1 := by omega
          have j0' : (1 : Int) ≤ (jj : Int) := by omega
          have j1 : (jj : Int) - 1 < (n : Int) := by omega
          have j2 : (0 : Int) ≤ (jj : Int) := by omega
          have j3 : (jj : Int) < (n : Int) := by omega
          have jt : ((jj : Int) - 1).toNat = jj - 1 := by omega
          have hd : decide ((jj : Int) < (n : Int)) = true := by simp; omega
          have hd' : decide (jj < n) = true := by simp [hjn]
          clear hz hp
          by_cases q : za - pa - pg ≤ 2 * (W : Int)
          · have e1 : decide (za - (pa + pg) ≤ 2 * (W : Int)) = true := decide_eq_true (by omega)
            have HNN := Lib.hid (show runF W x (hs.drop (i + 1)) = (jj + 1 - (i + 1)) + runF W ⟨za, zg, zn⟩ (hs.drop (jj + 1)) by rw [HRUN.out, if_pos q]; omega)
            clear q
            go_wp2
            refine wp_region_held_drew (S := fun w' => w'.cell? ⟨b, off + jj * 3, none⟩ = some (.int .i64 za) ∧ w'.cell? ⟨b, off + (jj - 1) * 3, none⟩ = some (.int .i64 pa) ∧ w'.cell? ⟨b, off + (jj - 1) * 3 + 1, none⟩ = some (.int .i64 pg)) (by kernel_rfl) ?_ (fun hHeld => ?_)
            · exact ⟨z0, p0, p1⟩
            refine wpAnyH_take (i := 0) (v := ?_) (by simp only [List.getElem?_toArray, List.getElem?_cons_succ, List.getElem?_cons_zero]; rfl) (by kernel_rfl) (by kernel_rfl) (by kernel_rfl) (by exact fun _ _ _ h => h) (Or.inl ⟨by rfl, ?_⟩) hHeld ?_
            rotate_left 1
            · (intro w hSw; (try dsimp only at hSw); go_simp; (try with_reducible rfl))
            (try simp only [Act.put, List.setIfInBounds_toArray, List.set_cons_zero, List.set_cons_succ])
            refine wpAnyH_take (i := 1) (v := ?_) (by simp only [List.getElem?_toArray, List.getElem?_cons_succ, List.getElem?_cons_zero]; rfl) (by kernel_rfl) (by kernel_rfl) (by kernel_rfl) (by exact fun _ _ _ h => h) (Or.inl ⟨by rfl, ?_⟩) hHeld ?_
            rotate_left 1
            · (intro w hSw; (try dsimp only at hSw); go_simp; (try with_reducible rfl))
            (try simp only [Act.put, List.setIfInBounds_toArray, List.set_cons_zero, List.set_cons_succ])
            refine wpAnyH_take (i := 2) (v := ?_) (by simp only [List.getElem?_toArray, List.getElem?_cons_succ, List.getElem?_cons_zero]; rfl) (by kernel_rfl) (by kernel_rfl) (by kernel_rfl) (by exact fun _ _ _ h => h) (Or.inl ⟨by rfl, ?_⟩) hHeld ?_
            rotate_left 1
            · (intro w hSw; (try dsimp only at hSw); go_simp; (try with_reducible rfl))
            (try simp only [Act.put, List.setIfInBounds_toArray, List.set_cons_zero, List.set_cons_succ])
            refine wpAnyH_take (i := 3) (v := ?_) (by simp only [List.getElem?_toArray, List.getElem?_cons_succ, List.getElem?_cons_zero]; rfl) (by kernel_rfl) (by kernel_rfl) (by kernel_rfl) (by exact fun _ _ _ h => h) (Or.inl ⟨by rfl, ?_⟩) hHeld ?_
            rotate_left 1
            · (intro w hSw; (try dsimp only at hSw); go_simp; (try with_reducible rfl))
            (try simp only [Act.put, List.setIfInBounds_toArray, List.set_cons_zero, List.set_cons_succ])
            refine wpAnyH_take (i := 4) (v := ?_) (by simp only [List.getElem?_toArray, List.getElem?_cons_succ, List.getElem?_cons_zero]; rfl) (by kernel_rfl) (by kernel_rfl) (by kernel_rfl) (by exact fun _ _ _ h => h) (Or.inl ⟨by rfl, ?_⟩) hHeld ?_
            rotate_left 1
            · (intro w hSw; (try dsimp only at hSw); go_simp; (try with_reducible rfl))
            (try simp only [Act.put, List.setIfInBounds_toArray, List.set_cons_zero, List.set_cons_succ])
            refine wpAnyH_take (i := 5) (v := ?_) (by simp only [List.getElem?_toArray, List.getElem?_cons_succ, List.getElem?_cons_zero]; rfl) (by kernel_rfl) (by kernel_rfl) (by kernel_rfl) (by exact fun _ _ _ h => h) (Or.inl ⟨by rfl, ?_⟩) hHeld ?_
            rotate_left 1
            · (intro w hSw; (try dsimp only at hSw); go_simp; (try with_reducible rfl))
            (try simp only [Act.put, List.setIfInBounds_toArray, List.set_cons_zero, List.set_cons_succ])
            refine wpAnyH_take (i := 6) (v := ?_) (by simp only [List.getElem?_toArray, List.getElem?_cons_succ, List.getElem?_cons_zero]; rfl) (by kernel_rfl) (by kernel_rfl) (by kernel_rfl) (by exact fun _ _ _ h => h) (Or.inl ⟨by rfl, ?_⟩) hHeld ?_
            rotate_left 1
            · (intro w hSw; (try dsimp only at hSw); go_simp; (try with_reducible rfl))
            (try simp only [Act.put, List.setIfInBounds_toArray, List.set_cons_zero, List.set_cons_succ])
            refine wpAnyH_take (i := 7) (v := ?_) (by simp only [List.getElem?_toArray, List.getElem?_cons_succ, List.getElem?_cons_zero]; rfl) (by kernel_rfl) (by kernel_rfl) (by kernel_rfl) (by exact fun _ _ _ h => h) (Or.inl ⟨by rfl, ?_⟩) hHeld ?_
            rotate_left 1
            · (intro w hSw; (try dsimp only at hSw); go_simp; (try with_reducible rfl))
            (try simp only [Act.put, List.setIfInBounds_toArray, List.set_cons_zero, List.set_cons_succ])
            refine wpAnyH_take (i := 8) (v := ?_) (by simp only [List.getElem?_toArray, List.getElem?_cons_succ, List.getElem?_cons_zero]; rfl) (by kernel_rfl) (by kernel_rfl) (by kernel_rfl) (by exact fun _ _ _ h => h) (Or.inl ⟨by rfl, ?_⟩) hHeld ?_
            rotate_left 1
            · (intro w hSw; (try dsimp only at hSw); go_simp; (try with_reducible rfl))
            (try simp only [Act.put, List.setIfInBounds_toArray, List.set_cons_zero, List.set_cons_succ])
            refine wpAnyH_take (i := 9) (v := ?_) (by simp only [List.getElem?_toArray, List.getElem?_cons_succ, List.getElem?_cons_zero]; rfl) (by kernel_rfl) (by kernel_rfl) (by kernel_rfl) (by exact fun _ _ _ h => h) (Or.inl ⟨by rfl, ?_⟩) hHeld ?_
            rotate_left 1
            · (intro w hSw; (try dsimp only at hSw); go_simp; (try with_reducible rfl))
            (try simp only [Act.put, List.setIfInBounds_toArray, List.set_cons_zero, List.set_cons_succ])
            refine wpAnyH_take (i := 10) (v := ?_) (by simp only [List.getElem?_toArray, List.getElem?_cons_succ, List.getElem?_cons_zero]; rfl) (by kernel_rfl) (by kernel_rfl) (by kernel_rfl) (by exact fun _ _ _ h => h) (Or.inl ⟨by rfl, ?_⟩) hHeld ?_
            rotate_left 1
            · (intro w hSw; (try dsimp only at hSw); go_simp; (try with_reducible rfl))
            (try simp only [Act.put, List.setIfInBounds_toArray, List.set_cons_zero, List.set_cons_succ])
            refine wpAnyH_take (i := 11) (v := ?_) (by simp only [List.getElem?_toArray, List.getElem?_cons_succ, List.getElem?_cons_zero]; rfl) (by kernel_rfl) (by kernel_rfl) (by kernel_rfl) (by exact fun _ _ _ h => h) (Or.inl ⟨by rfl, ?_⟩) hHeld ?_
            rotate_left 1
            · (intro w hSw; (try dsimp only at hSw); go_simp; (try with_reducible rfl))
            (try simp only [Act.put, List.setIfInBounds_toArray, List.set_cons_zero, List.set_cons_succ])
            refine wpAnyH_take (i := 12) (v := ?_) (by simp only [List.getElem?_toArray, List.getElem?_cons_succ, List.getElem?_cons_zero]; rfl) (by kernel_rfl) (by kernel_rfl) (by kernel_rfl) (by exact fun _ _ _ h => h) (Or.inl ⟨by rfl, ?_⟩) hHeld ?_
            rotate_left 1
            · (intro w hSw; (try dsimp only at hSw); go_simp; (try with_reducible rfl))
            (try simp only [Act.put, List.setIfInBounds_toArray, List.set_cons_zero, List.set_cons_succ])
            refine wpAnyH_take (i := 13) (v := ?_) (by simp only [List.getElem?_toArray, List.getElem?_cons_succ, List.getElem?_cons_zero]; rfl) (by kernel_rfl) (by kernel_rfl) (by kernel_rfl) (by exact fun _ _ _ h => h) (Or.inl ⟨by rfl, ?_⟩) hHeld ?_
            rotate_left 1
            · (intro w hSw; (try dsimp only at hSw); go_simp; (try with_reducible rfl))
            (try simp only [Act.put, List.setIfInBounds_toArray, List.set_cons_zero, List.set_cons_succ])
            refine wpAnyH_take (i := 14) (v := ?_) (by simp only [List.getElem?_toArray, List.getElem?_cons_succ, List.getElem?_cons_zero]; rfl) (by kernel_rfl) (by kernel_rfl) (by kernel_rfl) (by exact fun _ _ _ h => h) (Or.inl ⟨by rfl, ?_⟩) hHeld ?_
            rotate_left 1
            · (intro w hSw; (try dsimp only at hSw); go_simp; (try with_reducible rfl))
            (try simp only [Act.put, List.setIfInBounds_toArray, List.set_cons_zero, List.set_cons_succ])
            refine wpAnyH_take (i := 15) (v := ?_) (by simp only [List.getElem?_toArray, List.getElem?_cons_succ, List.getElem?_cons_zero]; rfl) (by kernel_rfl) (by kernel_rfl) (by kernel_rfl) (by exact fun _ _ _ h => h) (Or.inl ⟨by rfl, ?_⟩) hHeld ?_
            rotate_left 1
            · (intro w hSw; (try dsimp only at hSw); go_simp; (try with_reducible rfl))
            (try simp only [Act.put, List.setIfInBounds_toArray, List.set_cons_zero, List.set_cons_succ])
            refine wpAnyH_take (i := 16) (v := ?_) (by simp only [List.getElem?_toArray, List.getElem?_cons_succ, List.getElem?_cons_zero]; rfl) (by kernel_rfl) (by kernel_rfl) (by kernel_rfl) (by exact fun _ _ _ h => h) (Or.inl ⟨by rfl, ?_⟩) hHeld ?_
            rotate_left 1
            · (intro w hSw; (try dsimp only at hSw); go_simp; (try with_reducible rfl))
            (try simp only [Act.put, List.setIfInBounds_toArray, List.set_cons_zero, List.set_cons_succ])
            refine wpAnyH_take (i := 17) (v := ?_) (by simp only [List.getElem?_toArray, List.getElem?_cons_succ, List.getElem?_cons_zero]; rfl) (by kernel_rfl) (by kernel_rfl) (by kernel_rfl) (by exact fun _ _ _ h => h) (Or.inl ⟨by rfl, ?_⟩) hHeld ?_
            rotate_left 1
            · (intro w hSw; (try dsimp only at hSw); go_simp; (try with_reducible rfl))
            (try simp only [Act.put, List.setIfInBounds_toArray, List.set_cons_zero, List.set_cons_succ])
            refine wpAnyH_take (i := 18) (v := ?_) (by simp only [List.getElem?_toArray, List.getElem?_cons_succ, List.getElem?_cons_zero]; rfl) (by kernel_rfl) (by kernel_rfl) (by kernel_rfl) (by exact fun _ _ _ h => h) (Or.inl ⟨by rfl, ?_⟩) hHeld ?_
            rotate_left 1
            · (intro w hSw; (try dsimp only at hSw); go_simp; (try with_reducible rfl))
            (try simp only [Act.put, List.setIfInBounds_toArray, List.set_cons_zero, List.set_cons_succ])
            refine wpAnyH_take (i := 19) (v := ?_) (by simp only [List.getElem?_toArray, List.getElem?_cons_succ, List.getElem?_cons_zero]; rfl) (by kernel_rfl) (by kernel_rfl) (by kernel_rfl) (by exact fun _ _ _ h => h) (Or.inl ⟨by rfl, ?_⟩) hHeld ?_
            rotate_left 1
            · (intro w hSw; (try dsimp only at hSw); go_simp; (try with_reducible rfl))
            (try simp only [Act.put, List.setIfInBounds_toArray, List.set_cons_zero, List.set_cons_succ])
            refine wpAnyH_take (i := 20) (v := ?_) (by simp only [List.getElem?_toArray, List.getElem?_cons_succ, List.getElem?_cons_zero]; rfl) (by kernel_rfl) (by kernel_rfl) (by kernel_rfl) (by exact fun _ _ _ h => h) (Or.inl ⟨by rfl, ?_⟩) hHeld ?_
            rotate_left 1
            · (intro w hSw; (try dsimp only at hSw); go_simp; (try with_reducible rfl))
            (try simp only [Act.put, List.setIfInBounds_toArray, List.set_cons_zero, List.set_cons_succ])
            refine wpAnyH_take (i := 21) (v := ?_) (by simp only [List.getElem?_toArray, List.getElem?_cons_succ, List.getElem?_cons_zero]; rfl) (by kernel_rfl) (by kernel_rfl) (by kernel_rfl) (by exact fun _ _ _ h => h) (Or.inl ⟨by rfl, ?_⟩) hHeld ?_
            rotate_left 1
            · (intro w hSw; (try dsimp only at hSw); go_simp; (try with_reducible rfl))
            (try simp only [Act.put, List.setIfInBounds_toArray, List.set_cons_zero, List.set_cons_succ])
            refine wpAnyH_take (i := 22) (v := ?_) (by simp only [List.getElem?_toArray, List.getElem?_cons_succ, List.getElem?_cons_zero]; rfl) (by kernel_rfl) (by kernel_rfl) (by kernel_rfl) (by exact fun _ _ _ h => h) (Or.inl ⟨by rfl, ?_⟩) hHeld ?_
            rotate_left 1
            · (intro w hSw; (try dsimp only at hSw); go_simp; (try with_reducible rfl))
            (try simp only [Act.put, List.setIfInBounds_toArray, List.set_cons_zero, List.set_cons_succ])
            refine wpAnyH_take (i := 23) (v := ?_) (by simp only [List.getElem?_toArray, List.getElem?_cons_succ, List.getElem?_cons_zero]; rfl) (by kernel_rfl) (by kernel_rfl) (by kernel_rfl) (by exact fun _ _ _ h => h) (Or.inl ⟨by rfl, ?_⟩) hHeld ?_
            rotate_left 1
            · (intro w hSw; (try dsimp only at hSw); go_simp; (try with_reducible rfl))
            (try simp only [Act.put, List.setIfInBounds_toArray, List.set_cons_zero, List.set_cons_succ])
            refine wpAnyH_take (i := 24) (v := ?_) (by simp only [List.getElem?_toArray, List.getElem?_cons_succ, List.getElem?_cons_zero]; rfl) (by kernel_rfl) (by kernel_rfl) (by kernel_rfl) (by exact fun _ _ _ h => h) (Or.inl ⟨by rfl, ?_⟩) hHeld ?_
            rotate_left 1
            · (intro w hSw; (try dsimp only at hSw); go_simp; (try with_reducible rfl))
            (try simp only [Act.put, List.setIfInBounds_toArray, List.set_cons_zero, List.set_cons_succ])
            refine wpAnyH_take (i := 25) (v := ?_) (by simp only [List.getElem?_toArray, List.getElem?_cons_succ, List.getElem?_cons_zero]; rfl) (by kernel_rfl) (by kernel_rfl) (by kernel_rfl) (by exact fun _ _ _ h => h) (Or.inl ⟨by rfl, ?_⟩) hHeld ?_
            rotate_left 1
            · (intro w hSw; (try dsimp only at hSw); go_simp; (try with_reducible rfl))
            (try simp only [Act.put, List.setIfInBounds_toArray, List.set_cons_zero, List.set_cons_succ])
            refine wpAnyH_take (i := 26) (v := ?_) (by simp only [List.getElem?_toArray, List.getElem?_cons_succ, List.getElem?_cons_zero]; rfl) (by kernel_rfl) (by kernel_rfl) (by kernel_rfl) (by exact fun _ _ _ h => h) (Or.inl ⟨by rfl, ?_⟩) hHeld ?_
            rotate_left 1
            · (intro w hSw; (try dsimp only at hSw); go_simp; (try with_reducible rfl))
            (try simp only [Act.put, List.setIfInBounds_toArray, List.set_cons_zero, List.set_cons_succ])
            refine wpAnyH_take (i := 27) (v := ?_) (by simp only [List.getElem?_toArray, List.getElem?_cons_succ, List.getElem?_cons_zero]; rfl) (by kernel_rfl) (by kernel_rfl) (by kernel_rfl) (by exact fun _ _ _ h => h) (Or.inl ⟨by rfl, ?_⟩) hHeld ?_
            rotate_left 1
            · (intro w hSw; (try dsimp only at hSw); go_simp; (try with_reducible rfl))
            (try simp only [Act.put, List.setIfInBounds_toArray, List.set_cons_zero, List.set_cons_succ])
            refine wpAnyH_done (by kernel_rfl) ?_ _
            go_wp2
            go_roundw
            case rel => exact ⟨jj + 1, by go_num, by omega, by omega, ⟨⟨za, zg, zn⟩, by rw [Nat.add_sub_cancel]; exact HZ.out, HNN.out⟩, hbq.drew⟩
            case measure => simp [intOf]; omega
          · have e1 : decide (za - (pa + pg) ≤ 2 * (W : Int)) = false := decide_eq_false (by omega)
            have hjx : jj = nx := by have h1 := HRUN.out; rw [if_neg q] at h1; have := HKK.out; have := HNX.out; omega
            have HJX := Lib.hid hjx
            clear q hjx
            go_wp2
            refine wp_region_held_drew (S := fun w' => w'.cell? ⟨b, off + jj * 3, none⟩ = some (.int .i64 za) ∧ w'.cell? ⟨b, off + (jj - 1) * 3, none⟩ = some (.int .i64 pa) ∧ w'.cell? ⟨b, off + (jj - 1) * 3 + 1, none⟩ = some (.int .i64 pg)) (by kernel_rfl) ?_ (fun hHeld => ?_)
            · exact ⟨z0, p0, p1⟩
            refine wpAnyH_take (i := 0) (v := ?_) (by simp only [List.getElem?_toArray, List.getElem?_cons_succ, List.getElem?_cons_zero]; rfl) (by kernel_rfl) (by kernel_rfl) (by kernel_rfl) (by exact fun _ _ _ h => h) (Or.inl ⟨by rfl, ?_⟩) hHeld ?_
            rotate_left 1
            · (intro w hSw; (try dsimp only at hSw); go_simp; (try with_reducible rfl))
            (try simp only [Act.put, List.setIfInBounds_toArray, List.set_cons_zero, List.set_cons_succ])
            refine wpAnyH_take (i := 1) (v := ?_) (by simp only [List.getElem?_toArray, List.getElem?_cons_succ, List.getElem?_cons_zero]; rfl) (by kernel_rfl) (by kernel_rfl) (by kernel_rfl) (by exact fun _ _ _ h => h) (Or.inl ⟨by rfl, ?_⟩) hHeld ?_
            rotate_left 1
            · (intro w hSw; (try dsimp only at hSw); go_simp; (try with_reducible rfl))
            (try simp only [Act.put, List.setIfInBounds_toArray, List.set_cons_zero, List.set_cons_succ])
            refine wpAnyH_take (i := 2) (v := ?_) (by simp only [List.getElem?_toArray, List.getElem?_cons_succ, List.getElem?_cons_zero]; rfl) (by kernel_rfl) (by kernel_rfl) (by kernel_rfl) (by exact fun _ _ _ h => h) (Or.inl ⟨by rfl, ?_⟩) hHeld ?_
            rotate_left 1
            · (intro w hSw; (try dsimp only at hSw); go_simp; (try with_reducible rfl))
            (try simp only [Act.put, List.setIfInBounds_toArray, List.set_cons_zero, List.set_cons_succ])
            refine wpAnyH_take (i := 3) (v := ?_) (by simp only [List.getElem?_toArray, List.getElem?_cons_succ, List.getElem?_cons_zero]; rfl) (by kernel_rfl) (by kernel_rfl) (by kernel_rfl) (by exact fun _ _ _ h => h) (Or.inl ⟨by rfl, ?_⟩) hHeld ?_
            rotate_left 1
            · (intro w hSw; (try dsimp only at hSw); go_simp; (try with_reducible rfl))
            (try simp only [Act.put, List.setIfInBounds_toArray, List.set_cons_zero, List.set_cons_succ])
            refine wpAnyH_take (i := 4) (v := ?_) (by simp only [List.getElem?_toArray, List.getElem?_cons_succ, List.getElem?_cons_zero]; rfl) (by kernel_rfl) (by kernel_rfl) (by kernel_rfl) (by exact fun _ _ _ h => h) (Or.inl ⟨by rfl, ?_⟩) hHeld ?_
            rotate_left 1
            · (intro w hSw; (try dsimp only at hSw); go_simp; (try with_reducible rfl))
            (try simp only [Act.put, List.setIfInBounds_toArray, List.set_cons_zero, List.set_cons_succ])
            refine wpAnyH_take (i := 5) (v := ?_) (by simp only [List.getElem?_toArray, List.getElem?_cons_succ, List.getElem?_cons_zero]; rfl) (by kernel_rfl) (by kernel_rfl) (by kernel_rfl) (by exact fun _ _ _ h => h) (Or.inl ⟨by rfl, ?_⟩) hHeld ?_
            rotate_left 1
            · (intro w hSw; (try dsimp only at hSw); go_simp; (try with_reducible rfl))
            (try simp only [Act.put, List.setIfInBounds_toArray, List.set_cons_zero, List.set_cons_succ])
            refine wpAnyH_take (i := 6) (v := ?_) (by simp only [List.getElem?_toArray, List.getElem?_cons_succ, List.getElem?_cons_zero]; rfl) (by kernel_rfl) (by kernel_rfl) (by kernel_rfl) (by exact fun _ _ _ h => h) (Or.inl ⟨by rfl, ?_⟩) hHeld ?_
            rotate_left 1
            · (intro w hSw; (try dsimp only at hSw); go_simp; (try with_reducible rfl))
            (try simp only [Act.put, List.setIfInBounds_toArray, List.set_cons_zero, List.set_cons_succ])
            refine wpAnyH_take (i := 7) (v := ?_) (by simp only [List.getElem?_toArray, List.getElem?_cons_succ, List.getElem?_cons_zero]; rfl) (by kernel_rfl) (by kernel_rfl) (by kernel_rfl) (by exact fun _ _ _ h => h) (Or.inl ⟨by rfl, ?_⟩) hHeld ?_
            rotate_left 1
            · (intro w hSw; (try dsimp only at hSw); go_simp; (try with_reducible rfl))
            (try simp only [Act.put, List.setIfInBounds_toArray, List.set_cons_zero, List.set_cons_succ])
            refine wpAnyH_take (i := 8) (v := ?_) (by simp only [List.getElem?_toArray, List.getElem?_cons_succ, List.getElem?_cons_zero]; rfl) (by kernel_rfl) (by kernel_rfl) (by kernel_rfl) (by exact fun _ _ _ h => h) (Or.inl ⟨by rfl, ?_⟩) hHeld ?_
            rotate_left 1
            · (intro w hSw; (try dsimp only at hSw); go_simp; (try with_reducible rfl))
            (try simp only [Act.put, List.setIfInBounds_toArray, List.set_cons_zero, List.set_cons_succ])
            refine wpAnyH_take (i := 9) (v := ?_) (by simp only [List.getElem?_toArray, List.getElem?_cons_succ, List.getElem?_cons_zero]; rfl) (by kernel_rfl) (by kernel_rfl) (by kernel_rfl) (by exact fun _ _ _ h => h) (Or.inl ⟨by rfl, ?_⟩) hHeld ?_
            rotate_left 1
            · (intro w hSw; (try dsimp only at hSw); go_simp; (try with_reducible rfl))
            (try simp only [Act.put, List.setIfInBounds_toArray, List.set_cons_zero, List.set_cons_succ])
            refine wpAnyH_take (i := 10) (v := ?_) (by simp only [List.getElem?_toArray, List.getElem?_cons_succ, List.getElem?_cons_zero]; rfl) (by kernel_rfl) (by kernel_rfl) (by kernel_rfl) (by exact fun _ _ _ h => h) (Or.inl ⟨by rfl, ?_⟩) hHeld ?_
            rotate_left 1
            · (intro w hSw; (try dsimp only at hSw); go_simp; (try with_reducible rfl))
            (try simp only [Act.put, List.setIfInBounds_toArray, List.set_cons_zero, List.set_cons_succ])
            refine wpAnyH_take (i := 11) (v := ?_) (by simp only [List.getElem?_toArray, List.getElem?_cons_succ, List.getElem?_cons_zero]; rfl) (by kernel_rfl) (by kernel_rfl) (by kernel_rfl) (by exact fun _ _ _ h => h) (Or.inl ⟨by rfl, ?_⟩) hHeld ?_
            rotate_left 1
            · (intro w hSw; (try dsimp only at hSw); go_simp; (try with_reducible rfl))
            (try simp only [Act.put, List.setIfInBounds_toArray, List.set_cons_zero, List.set_cons_succ])
            refine wpAnyH_take (i := 12) (v := ?_) (by simp only [List.getElem?_toArray, List.getElem?_cons_succ, List.getElem?_cons_zero]; rfl) (by kernel_rfl) (by kernel_rfl) (by kernel_rfl) (by exact fun _ _ _ h => h) (Or.inl ⟨by rfl, ?_⟩) hHeld ?_
            rotate_left 1
            · (intro w hSw; (try dsimp only at hSw); go_simp; (try with_reducible rfl))
            (try simp only [Act.put, List.setIfInBounds_toArray, List.set_cons_zero, List.set_cons_succ])
            refine wpAnyH_take (i := 13) (v := ?_) (by simp only [List.getElem?_toArray, List.getElem?_cons_succ, List.getElem?_cons_zero]; rfl) (by kernel_rfl) (by kernel_rfl) (by kernel_rfl) (by exact fun _ _ _ h => h) (Or.inl ⟨by rfl, ?_⟩) hHeld ?_
            rotate_left 1
            · (intro w hSw; (try dsimp only at hSw); go_simp; (try with_reducible rfl))
            (try simp only [Act.put, List.setIfInBounds_toArray, List.set_cons_zero, List.set_cons_succ])
            refine wpAnyH_take (i := 14) (v := ?_) (by simp only [List.getElem?_toArray, List.getElem?_cons_succ, List.getElem?_cons_zero]; rfl) (by kernel_rfl) (by kernel_rfl) (by kernel_rfl) (by exact fun _ _ _ h => h) (Or.inl ⟨by rfl, ?_⟩) hHeld ?_
            rotate_left 1
            · (intro w hSw; (try dsimp only at hSw); go_simp; (try with_reducible rfl))
            (try simp only [Act.put, List.setIfInBounds_toArray, List.set_cons_zero, List.set_cons_succ])
            refine wpAnyH_take (i := 15) (v := ?_) (by simp only [List.getElem?_toArray, List.getElem?_cons_succ, List.getElem?_cons_zero]; rfl) (by kernel_rfl) (by kernel_rfl) (by kernel_rfl) (by exact fun _ _ _ h => h) (Or.inl ⟨by rfl, ?_⟩) hHeld ?_
            rotate_left 1
            · (intro w hSw; (try dsimp only at hSw); go_simp; (try with_reducible rfl))
            (try simp only [Act.put, List.setIfInBounds_toArray, List.set_cons_zero, List.set_cons_succ])
            refine wpAnyH_take (i := 16) (v := ?_) (by simp only [List.getElem?_toArray, List.getElem?_cons_succ, List.getElem?_cons_zero]; rfl) (by kernel_rfl) (by kernel_rfl) (by kernel_rfl) (by exact fun _ _ _ h => h) (Or.inl ⟨by rfl, ?_⟩) hHeld ?_
            rotate_left 1
            · (intro w hSw; (try dsimp only at hSw); go_simp; (try with_reducible rfl))
            (try simp only [Act.put, List.setIfInBounds_toArray, List.set_cons_zero, List.set_cons_succ])
            refine wpAnyH_take (i := 17) (v := ?_) (by simp only [List.getElem?_toArray, List.getElem?_cons_succ, List.getElem?_cons_zero]; rfl) (by kernel_rfl) (by kernel_rfl) (by kernel_rfl) (by exact fun _ _ _ h => h) (Or.inl ⟨by rfl, ?_⟩) hHeld ?_
            rotate_left 1
            · (intro w hSw; (try dsimp only at hSw); go_simp; (try with_reducible rfl))
            (try simp only [Act.put, List.setIfInBounds_toArray, List.set_cons_zero, List.set_cons_succ])
            refine wpAnyH_take (i := 18) (v := ?_) (by simp only [List.getElem?_toArray, List.getElem?_cons_succ, List.getElem?_cons_zero]; rfl) (by kernel_rfl) (by kernel_rfl) (by kernel_rfl) (by exact fun _ _ _ h => h) (Or.inl ⟨by rfl, ?_⟩) hHeld ?_
            rotate_left 1
            · (intro w hSw; (try dsimp only at hSw); go_simp; (try with_reducible rfl))
            (try simp only [Act.put, List.setIfInBounds_toArray, List.set_cons_zero, List.set_cons_succ])
            refine wpAnyH_take (i := 19) (v := ?_) (by simp only [List.getElem?_toArray, List.getElem?_cons_succ, List.getElem?_cons_zero]; rfl) (by kernel_rfl) (by kernel_rfl) (by kernel_rfl) (by exact fun _ _ _ h => h) (Or.inl ⟨by rfl, ?_⟩) hHeld ?_
            rotate_left 1
            · (intro w hSw; (try dsimp only at hSw); go_simp; (try with_reducible rfl))
            (try simp only [Act.put, List.setIfInBounds_toArray, List.set_cons_zero, List.set_cons_succ])
            refine wpAnyH_take (i := 20) (v := ?_) (by simp only [List.getElem?_toArray, List.getElem?_cons_succ, List.getElem?_cons_zero]; rfl) (by kernel_rfl) (by kernel_rfl) (by kernel_rfl) (by exact fun _ _ _ h => h) (Or.inl ⟨by rfl, ?_⟩) hHeld ?_
            rotate_left 1
            · (intro w hSw; (try dsimp only at hSw); go_simp; (try with_reducible rfl))
            (try simp only [Act.put, List.setIfInBounds_toArray, List.set_cons_zero, List.set_cons_succ])
            refine wpAnyH_take (i := 21) (v := ?_) (by simp only [List.getElem?_toArray, List.getElem?_cons_succ, List.getElem?_cons_zero]; rfl) (by kernel_rfl) (by kernel_rfl) (by kernel_rfl) (by exact fun _ _ _ h => h) (Or.inl ⟨by rfl, ?_⟩) hHeld ?_
            rotate_left 1
            · (intro w hSw; (try dsimp only at hSw); go_simp; (try with_reducible rfl))
            (try simp only [Act.put, List.setIfInBounds_toArray, List.set_cons_zero, List.set_cons_succ])
            refine wpAnyH_take (i := 22) (v := ?_) (by simp only [List.getElem?_toArray, List.getElem?_cons_succ, List.getElem?_cons_zero]; rfl) (by kernel_rfl) (by kernel_rfl) (by kernel_rfl) (by exact fun _ _ _ h => h) (Or.inl ⟨by rfl, ?_⟩) hHeld ?_
            rotate_left 1
            · (intro w hSw; (try dsimp only at hSw); go_simp; (try with_reducible rfl))
            (try simp only [Act.put, List.setIfInBounds_toArray, List.set_cons_zero, List.set_cons_succ])
            refine wpAnyH_take (i := 23) (v := ?_) (by simp only [List.getElem?_toArray, List.getElem?_cons_succ, List.getElem?_cons_zero]; rfl) (by kernel_rfl) (by kernel_rfl) (by kernel_rfl) (by exact fun _ _ _ h => h) (Or.inl ⟨by rfl, ?_⟩) hHeld ?_
            rotate_left 1
            · (intro w hSw; (try dsimp only at hSw); go_simp; (try with_reducible rfl))
            (try simp only [Act.put, List.setIfInBounds_toArray, List.set_cons_zero, List.set_cons_succ])
            refine wpAnyH_take (i := 24) (v := ?_) (by simp only [List.getElem?_toArray, List.getElem?_cons_succ, List.getElem?_cons_zero]; rfl) (by kernel_rfl) (by kernel_rfl) (by kernel_rfl) (by exact fun _ _ _ h => h) (Or.inl ⟨by rfl, ?_⟩) hHeld ?_
            rotate_left 1
            · (intro w hSw; (try dsimp only at hSw); go_simp; (try with_reducible rfl))
            (try simp only [Act.put, List.setIfInBounds_toArray, List.set_cons_zero, List.set_cons_succ])
            refine wpAnyH_take (i := 25) (v := ?_) (by simp only [List.getElem?_toArray, List.getElem?_cons_succ, List.getElem?_cons_zero]; rfl) (by kernel_rfl) (by kernel_rfl) (by kernel_rfl) (by exact fun _ _ _ h => h) (Or.inl ⟨by rfl, ?_⟩) hHeld ?_
            rotate_left 1
            · (intro w hSw; (try dsimp only at hSw); go_simp; (try with_reducible rfl))
            (try simp only [Act.put, List.setIfInBounds_toArray, List.set_cons_zero, List.set_cons_succ])
            refine wpAnyH_take (i := 26) (v := ?_) (by simp only [List.getElem?_toArray, List.getElem?_cons_succ, List.getElem?_cons_zero]; rfl) (by kernel_rfl) (by kernel_rfl) (by kernel_rfl) (by exact fun _ _ _ h => h) (Or.inl ⟨by rfl, ?_⟩) hHeld ?_
            rotate_left 1
            · (intro w hSw; (try dsimp only at hSw); go_simp; (try with_reducible rfl))
            (try simp only [Act.put, List.setIfInBounds_toArray, List.set_cons_zero, List.set_cons_succ])
            refine wpAnyH_take (i := 27) (v := ?_) (by simp only [List.getElem?_toArray, List.getElem?_cons_succ, List.getElem?_cons_zero]; rfl) (by kernel_rfl) (by kernel_rfl) (by kernel_rfl) (by exact fun _ _ _ h => h) (Or.inl ⟨by rfl, ?_⟩) hHeld ?_
            rotate_left 1
            · (intro w hSw; (try dsimp only at hSw); go_simp; (try with_reducible rfl))
            (try simp only [Act.put, List.setIfInBounds_toArray, List.set_cons_zero, List.set_cons_succ])
            refine wpAnyH_done (by kernel_rfl) ?_ _
            have hjx := HJX.out.symm
            subst hjx
            clear s1 s2 s3 s4 j0 j0' j1 j2 j3 jt hd hd' e1 z0 z1 z2 p0 p1 p2 hHeld
            obtain ⟨wd, HWD⟩ : ∃ wd, Hid (wd = wq.drew) := ⟨_, rfl⟩
            have hbd := Lib.hid (show Below w.heap.size w wd by rw [HWD.out]; exact hbw.drew)
            have hod := Lib.hid (show OwnGp wd w.heap.size v out vs by rw [HWD.out]; exact (ho.below hbq).below (Below.refl _ _).drew)
            rw [← HWD.out]
            have hcut := cut_lh_hks (some ⟨b, off, none⟩) n c i nx (by omega) (by omega)
            go_wp2_with fail
            refine (l6One_any a nl cl l (cutH (some ⟨b, off, none⟩) c i) (nx - i) (c - i) ((hs.drop i).take k) x y W F E M0 wd (HLL.out.below hbd.out) hcl (by
              have h5 := (HST.out.below hbd.out).cutG (lo := i) (hi := nx) (by omega) (by omega) hc
              rw [show nx - i = k by have := HNX.out; omega] at h5 ⊢
              exact h5) (by rw [List.getElem?_take, if_pos (by omega), List.getElem?_drop]; exact HXX.out) (by
              rw [List.getElem?_take, if_pos (by have := HNX.out; omega), List.getElem?_drop, show i + (nx - i - 1) = nx - 1 by omega]; exact HYY.out) HF.out HE.out HGR2.out gr3 gr4 hnl40 (by omega) hW hM0 hM1 (fun z hz => HMB.out z (List.mem_of_mem_drop (List.mem_of_mem_take hz)))).mono ?_
            rintro e w2 ⟨u, rfl, o2, b2⟩
            obtain ⟨ul, HUL⟩ : ∃ ul, Hid ((rowsM l E F ((hs.drop i).take k)).length = ul) := ⟨_, rfl⟩
            obtain ⟨uA, uc, rfl, hu1, _⟩ := o2.form HUL.out
            have B2 := Lib.hid (hbd.out.next b2)
            have ho2 := hod.out.below b2
            have o2b := o2.more hbd.out.size
            have hfr : ∀ g, (Value.slice uA ul uc).ownBlock = some g → ¬ BlkR v vs g := fun g e e2 => by
              have h6 := (o2.lt e).1
              have h7 := (hod.out.lt e2).2
              omega
            have hF0 : i64ok (F : Int) := ⟨by omega, by omega⟩
            have hF1 : i64ok ((F : Int) + M0) := ⟨by have := HFB.out; omega, by have := HFB.out; omega⟩
            have hb3 : Below w2.heap.size w2 (w2.alloc (.cells #[.int .i64 (F : Int), .int .i64 ((F : Int) + M0), .slice uA ul uc] 60)) := below_alloc _ _
            have ho3 := ho2.below hb3
            have o3 := o2b.below hb3
            have hz3 : w.heap.size ≤ w2.heap.size := B2.out.size
            have hlo : out.length ≤ 1048576 := by have := HO.out; omega
            have hbk : ∀ g, v.ownBlock = some g → w.heap.size ≤ g := fun g e => (ho2.lt (List.mem_append.2 (.inl (by simp [e])))).1
            clear b2 o2
            go_wp2_with (at_builtin; refine wpList_gp (.tmp 49) (.tmp 58) w.heap.size v out vs ho3 ⟨(F : Int), (F : Int) + M0, rowsM l E F ((hs.drop i).take k)⟩ ⟨hF0, hF1, o3.ok⟩ (.slice uA ul uc) o3 hfr w2.heap.size (by simp) (by simp) (by simp) hlo (by simp; omega) rfl rfl rfl rfl ?_; intro v7 w7 o7 g7 p7)
            have B7 := Lib.hid (Below.grown (B2.out.next hb3) g7 (by simp; omega) hbk)
            clear g7 p7 hb3 ho3 o3 o2b ho2 hfr hod hbk
            go_loopw [8, 65] (fun q ix w' => ∃ t : Nat, ∃ Mt : Int, ix = .int .i64 (t : Int) ∧ q = .int .i64 Mt ∧ t ≤ k ∧ Hid (moreH (hs.take (i + t)) = Mt) ∧ Below w7.heap.size w7 w') (fun _ ix _ => k - (intOf ix).toNat)
            case atStart => exact ⟨0, M0, rfl, rfl, by omega, HM0.out, Below.refl _ _⟩
            case round =>
              rename World => ws
              obtain ⟨t, Mt, rfl, rfl, ht, HMT, hbs⟩ := hrel
              have hbz := B7.out.next hbs
              have hnk : nx - i = k := by have := HNX.out; omega
              by_cases htk : t < k
              · have hcutH := (HST.out.below hbz).cutG (lo := i) (hi := nx) (by omega) (by omega) hc
                obtain ⟨bt, ot, At, mt, ct, zt, hbt, hzt, t0, t1, t2, hstt, hmct, _, _⟩ := hcutH.at_ (show t < nx - i by omega)
                rw [hbt]
                rw [List.getElem?_take, if_pos (by omega), List.getElem?_drop] at hzt
                have hzb := HMB.out zt (List.mem_of_getElem? hzt)
                have HSN := Lib.hid (moreH_snoc hzt)
                have hMn := HMR.out (i + t + 1)
                have hMt := HMR.out (i + t)
                rw [HMT.out] at hMt HSN
                have HLT := Lib.hid hstt.len
                obtain ⟨zb0, zb1, zb2, zb3, zb4⟩ := hzb
                obtain ⟨hMt0, hMt1⟩ := hMt
                have hmt : mt ≤ 40 := by rw [← HLT.out]; exact zb4
                obtain ⟨ta, tg, tn⟩ := zt
                dsimp only at *
                have q1 : IntKind.i64.wrap ((mt : Int) - tg) = (mt : Int) - tg := by rw [IntKind.wrap_i64]; omega
                have q2 : IntKind.i64.wrap (Mt + ((mt : Int) - tg)) = Mt + ((mt : Int) - tg) := by rw [IntKind.wrap_i64]; omega
                have hi2 : (t : Int) < ((nx - i : Nat) : Int) := by omega
                clear hzt hcutH hbt hMn
                go_wp2
                go_roundw
                case rel => exact ⟨t + 1, Mt + ((mt : Int) - tg), by go_num, rfl, by omega, by rw [← Nat.add_assoc, HSN.out, HLT.out]; rfl, hbs.next (below_alloc _ _)⟩
                case measure => simp [intOf]; omega
              · have htk2 : t = k := by omega
                subst htk2
                have HMT2 := Lib.hid (show moreH (hs.take nx) = Mt by rw [← HNX.out]; exact HMT.out)
                go_wp2
                go_roundw
                case rel => exact ⟨v7, _, out ++ [⟨(F : Int), (F : Int) + M0, rowsM l E F ((hs.drop i).take t)⟩], Mt, nx, f', rfl, rfl, rfl, HMT2.out, hkn, o7.below hbs, show _ ≤ _ by rw [List.length_append]; have := HO.out; simp; omega, hfu2, show _ = _ by
                  rw [← HP.out, HM0.out, HG2.out]
                  simp only [List.append_assoc, List.singleton_append], hbz⟩
                case measure => simp [intOf]; omega
        · have hjx : jj = nx := by
            obtain ⟨p', hp', e⟩ := HJ.out
            rw [List.drop_eq_nil_of_le (show hs.length ≤ jj by rw [HN.out]; omega)] at e
            simp only [runF] at e
            have := HKK.out
            have := HNX.out
            omega
          have HJX := Lib.hid hjx
          clear hjx
          have hd : decide ((jj : Int) < (n : Int)) = false := by simp; omega
          have hd' : decide (jj < n) = false := by simp [hjn]
          go_wp2
          refine wp_region_held_drew (S := fun _ => True) (by kernel_rfl) ?_ (fun hHeld => ?_)
          · exact trivial
          refine wpAnyH_take (i := 0) (v := ?_) (by simp only [List.getElem?_toArray, List.getElem?_cons_succ, List.getElem?_cons_zero]; rfl) (by kernel_rfl) (by kernel_rfl) (by kernel_rfl) (by exact fun _ _ _ h => h) (Or.inl ⟨by rfl, ?_⟩) hHeld ?_
          rotate_left 1
          · (intro w hSw; (try dsimp only at hSw); go_simp; (try with_reducible rfl))
          (try simp only [Act.put, List.setIfInBounds_toArray, List.set_cons_zero, List.set_cons_succ])
          refine wpAnyH_take (i := 1) (v := ?_) (by simp only [List.getElem?_toArray, List.getElem?_cons_succ, List.getElem?_cons_zero]; rfl) (by kernel_rfl) (by kernel_rfl) (by kernel_rfl) (by exact fun _ _ _ h => h) (Or.inl ⟨by rfl, ?_⟩) hHeld ?_
          rotate_left 1
          · (intro w hSw; (try dsimp only at hSw); go_simp; (try with_reducible rfl))
          (try simp only [Act.put, List.setIfInBounds_toArray, List.set_cons_zero, List.set_cons_succ])
          refine wpAnyH_take (i := 2) (v := ?_) (by simp only [List.getElem?_toArray, List.getElem?_cons_succ, List.getElem?_cons_zero]; rfl) (by kernel_rfl) (by kernel_rfl) (by kernel_rfl) (by exact fun _ _ _ h => h) (Or.inl ⟨by rfl, ?_⟩) hHeld ?_
          rotate_left 1
          · (intro w hSw; (try dsimp only at hSw); go_simp; (try with_reducible rfl))
          (try simp only [Act.put, List.setIfInBounds_toArray, List.set_cons_zero, List.set_cons_succ])
          refine wpAnyH_take (i := 3) (v := ?_) (by simp only [List.getElem?_toArray, List.getElem?_cons_succ, List.getElem?_cons_zero]; rfl) (by kernel_rfl) (by kernel_rfl) (by kernel_rfl) (by exact fun _ _ _ h => h) (Or.inl ⟨by rfl, ?_⟩) hHeld ?_
          rotate_left 1
          · (intro w hSw; (try dsimp only at hSw); go_simp; (try with_reducible rfl))
          (try simp only [Act.put, List.setIfInBounds_toArray, List.set_cons_zero, List.set_cons_succ])
          refine wpAnyH_take (i := 4) (v := ?_) (by simp only [List.getElem?_toArray, List.getElem?_cons_succ, List.getElem?_cons_zero]; rfl) (by kernel_rfl) (by kernel_rfl) (by kernel_rfl) (by exact fun _ _ _ h => h) (Or.inl ⟨by rfl, ?_⟩) hHeld ?_
          rotate_left 1
          · (intro w hSw; (try dsimp only at hSw); go_simp; (try with_reducible rfl))
          (try simp only [Act.put, List.setIfInBounds_toArray, List.set_cons_zero, List.set_cons_succ])
          refine takeU (i := 5) (by simp only [List.getElem?_toArray, List.getElem?_cons_succ, List.getElem?_cons_zero]; rfl) (by kernel_rfl) (by kernel_rfl) (by kernel_rfl) (by exact fun _ _ _ h => h) (by rfl) hHeld ?_
          (try simp only [Act.put, List.setIfInBounds_toArray, List.set_cons_zero, List.set_cons_succ])
          refine takeU (i := 6) (by simp only [List.getElem?_toArray, List.getElem?_cons_succ, List.getElem?_cons_zero]; rfl) (by kernel_rfl) (by kernel_rfl) (by kernel_rfl) (by exact fun _ _ _ h => h) (by rfl) hHeld ?_
          (try simp only [Act.put, List.setIfInBounds_toArray, List.set_cons_zero, List.set_cons_succ])
          refine takeU (i := 7) (by simp only [List.getElem?_toArray, List.getElem?_cons_succ, List.getElem?_cons_zero]; rfl) (by kernel_rfl) (by kernel_rfl) (by kernel_rfl) (by exact fun _ _ _ h => h) (by rfl) hHeld ?_
          (try simp only [Act.put, List.setIfInBounds_toArray, List.set_cons_zero, List.set_cons_succ])
          refine takeU (i := 8) (by simp only [List.getElem?_toArray, List.getElem?_cons_succ, List.getElem?_cons_zero]; rfl) (by kernel_rfl) (by kernel_rfl) (by kernel_rfl) (by exact fun _ _ _ h => h) (by rfl) hHeld ?_
          (try simp only [Act.put, List.setIfInBounds_toArray, List.set_cons_zero, List.set_cons_succ])
          refine takeU (i := 9) (by simp only [List.getElem?_toArray, List.getElem?_cons_succ, List.getElem?_cons_zero]; rfl) (by kernel_rfl) (by kernel_rfl) (by kernel_rfl) (by exact fun _ _ _ h => h) (by rfl) hHeld ?_
          (try simp only [Act.put, List.setIfInBounds_toArray, List.set_cons_zero, List.set_cons_succ])
          refine takeU (i := 10) (by simp only [List.getElem?_toArray, List.getElem?_cons_succ, List.getElem?_cons_zero]; rfl) (by kernel_rfl) (by kernel_rfl) (by kernel_rfl) (by exact fun _ _ _ h => h) (by rfl) hHeld ?_
          (try simp only [Act.put, List.setIfInBounds_toArray, List.set_cons_zero, List.set_cons_succ])
          refine takeU (i := 11) (by simp only [List.getElem?_toArray, List.getElem?_cons_succ, List.getElem?_cons_zero]; rfl) (by kernel_rfl) (by kernel_rfl) (by kernel_rfl) (by exact fun _ _ _ h => h) (by rfl) hHeld ?_
          (try simp only [Act.put, List.setIfInBounds_toArray, List.set_cons_zero, List.set_cons_succ])
          refine takeU (i := 12) (by simp only [List.getElem?_toArray, List.getElem?_cons_succ, List.getElem?_cons_zero]; rfl) (by kernel_rfl) (by kernel_rfl) (by kernel_rfl) (by exact fun _ _ _ h => h) (by rfl) hHeld ?_
          (try simp only [Act.put, List.setIfInBounds_toArray, List.set_cons_zero, List.set_cons_succ])
          refine takeU (i := 13) (by simp only [List.getElem?_toArray, List.getElem?_cons_succ, List.getElem?_cons_zero]; rfl) (by kernel_rfl) (by kernel_rfl) (by kernel_rfl) (by exact fun _ _ _ h => h) (by rfl) hHeld ?_
          (try simp only [Act.put, List.setIfInBounds_toArray, List.set_cons_zero, List.set_cons_succ])
          refine takeU (i := 14) (by simp only [List.getElem?_toArray, List.getElem?_cons_succ, List.getElem?_cons_zero]; rfl) (by kernel_rfl) (by kernel_rfl) (by kernel_rfl) (by exact fun _ _ _ h => h) (by rfl) hHeld ?_
          (try simp only [Act.put, List.setIfInBounds_toArray, List.set_cons_zero, List.set_cons_succ])
          refine takeU (i := 15) (by simp only [List.getElem?_toArray, List.getElem?_cons_succ, List.getElem?_cons_zero]; rfl) (by kernel_rfl) (by kernel_rfl) (by kernel_rfl) (by exact fun _ _ _ h => h) (by rfl) hHeld ?_
          (try simp only [Act.put, List.setIfInBounds_toArray, List.set_cons_zero, List.set_cons_succ])
          refine takeU (i := 16) (by simp only [List.getElem?_toArray, List.getElem?_cons_succ, List.getElem?_cons_zero]; rfl) (by kernel_rfl) (by kernel_rfl) (by kernel_rfl) (by exact fun _ _ _ h => h) (by rfl) hHeld ?_
          (try simp only [Act.put, List.setIfInBounds_toArray, List.set_cons_zero, List.set_cons_succ])
          refine takeU (i := 17) (by simp only [List.getElem?_toArray, List.getElem?_cons_succ, List.getElem?_cons_zero]; rfl) (by kernel_rfl) (by kernel_rfl) (by kernel_rfl) (by exact fun _ _ _ h => h) (by rfl) hHeld ?_
          (try simp only [Act.put, List.setIfInBounds_toArray, List.set_cons_zero, List.set_cons_succ])
          refine takeU (i := 18) (by simp only [List.getElem?_toArray, List.getElem?_cons_succ, List.getElem?_cons_zero]; rfl) (by kernel_rfl) (by kernel_rfl) (by kernel_rfl) (by exact fun _ _ _ h => h) (by rfl) hHeld ?_
          (try simp only [Act.put, List.setIfInBounds_toArray, List.set_cons_zero, List.set_cons_succ])
          refine takeU (i := 19) (by simp only [List.getElem?_toArray, List.getElem?_cons_succ, List.getElem?_cons_zero]; rfl) (by kernel_rfl) (by kernel_rfl) (by kernel_rfl) (by exact fun _ _ _ h => h) (by rfl) hHeld ?_
          (try simp only [Act.put, List.setIfInBounds_toArray, List.set_cons_zero, List.set_cons_succ])
          refine takeU (i := 20) (by simp only [List.getElem?_toArray, List.getElem?_cons_succ, List.getElem?_cons_zero]; rfl) (by kernel_rfl) (by kernel_rfl) (by kernel_rfl) (by exact fun _ _ _ h => h) (by rfl) hHeld ?_
          (try simp only [Act.put, List.setIfInBounds_toArray, List.set_cons_zero, List.set_cons_succ])
          refine takeU (i := 21) (by simp only [List.getElem?_toArray, List.getElem?_cons_succ, List.getElem?_cons_zero]; rfl) (by kernel_rfl) (by kernel_rfl) (by kernel_rfl) (by exact fun _ _ _ h => h) (by rfl) hHeld ?_
          (try simp only [Act.put, List.setIfInBounds_toArray, List.set_cons_zero, List.set_cons_succ])
          refine takeU (i := 22) (by simp only [List.getElem?_toArray, List.getElem?_cons_succ, List.getElem?_cons_zero]; rfl) (by kernel_rfl) (by kernel_rfl) (by kernel_rfl) (by exact fun _ _ _ h => h) (by rfl) hHeld ?_
          (try simp only [Act.put, List.setIfInBounds_toArray, List.set_cons_zero, List.set_cons_succ])
          refine takeU (i := 23) (by simp only [List.getElem?_toArray, List.getElem?_cons_succ, List.getElem?_cons_zero]; rfl) (by kernel_rfl) (by kernel_rfl) (by kernel_rfl) (by exact fun _ _ _ h => h) (by rfl) hHeld ?_
          (try simp only [Act.put, List.setIfInBounds_toArray, List.set_cons_zero, List.set_cons_succ])
          refine takeU (i := 24) (by simp only [List.getElem?_toArray, List.getElem?_cons_succ, List.getElem?_cons_zero]; rfl) (by kernel_rfl) (by kernel_rfl) (by kernel_rfl) (by exact fun _ _ _ h => h) (by rfl) hHeld ?_
          (try simp only [Act.put, List.setIfInBounds_toArray, List.set_cons_zero, List.set_cons_succ])
          refine takeU (i := 25) (by simp only [List.getElem?_toArray, List.getElem?_cons_succ, List.getElem?_cons_zero]; rfl) (by kernel_rfl) (by kernel_rfl) (by kernel_rfl) (by exact fun _ _ _ h => h) (by rfl) hHeld ?_
          (try simp only [Act.put, List.setIfInBounds_toArray, List.set_cons_zero, List.set_cons_succ])
          refine takeU (i := 26) (by simp only [List.getElem?_toArray, List.getElem?_cons_succ, List.getElem?_cons_zero]; rfl) (by kernel_rfl) (by kernel_rfl) (by kernel_rfl) (by exact fun _ _ _ h => h) (by rfl) hHeld ?_
          (try simp only [Act.put, List.setIfInBounds_toArray, List.set_cons_zero, List.set_cons_succ])
          refine wpAnyH_take (i := 27) (v := ?_) (by simp only [List.getElem?_toArray, List.getElem?_cons_succ, List.getElem?_cons_zero]; rfl) (by kernel_rfl) (by kernel_rfl) (by kernel_rfl) (by exact fun _ _ _ h => h) (Or.inl ⟨by rfl, ?_⟩) hHeld ?_
          rotate_left 1
          · (intro w hSw; (try dsimp only at hSw); go_simp; (try with_reducible rfl))
          (try simp only [Act.put, List.setIfInBounds_toArray, List.set_cons_zero, List.set_cons_succ])
          refine wpAnyH_done (by kernel_rfl) ?_ _
          have hjx := HJX.out.symm
          subst hjx
          clear s4 hd hd' hHeld
          obtain ⟨wd, HWD⟩ : ∃ wd, Hid (wd = wq.drew) := ⟨_, rfl⟩
          have hbd := Lib.hid (show Below w.heap.size w wd by rw [HWD.out]; exact hbw.drew)
          have hod := Lib.hid (show OwnGp wd w.heap.size v out vs by rw [HWD.out]; exact (ho.below hbq).below (Below.refl _ _).drew)
          rw [← HWD.out]
          have hcut := cut_lh_hks (some ⟨b, off, none⟩) n c i nx (by omega) (by omega)
          go_wp2_with fail
          refine (l6One_any a nl cl l (cutH (some ⟨b, off, none⟩) c i) (nx - i) (c - i) ((hs.drop i).take k) x y W F E M0 wd (HLL.out.below hbd.out) hcl (by
            have h5 := (HST.out.below hbd.out).cutG (lo := i) (hi := nx) (by omega) (by omega) hc
            rw [show nx - i = k by have := HNX.out; omega] at h5 ⊢
            exact h5) (by rw [List.getElem?_take, if_pos (by omega), List.getElem?_drop]; exact HXX.out) (by
            rw [List.getElem?_take, if_pos (by have := HNX.out; omega), List.getElem?_drop, show i + (nx - i - 1) = nx - 1 by omega]; exact HYY.out) HF.out HE.out HGR2.out gr3 gr4 hnl40 (by omega) hW hM0 hM1 (fun z hz => HMB.out z (List.mem_of_mem_drop (List.mem_of_mem_take hz)))).mono ?_
          rintro e w2 ⟨u, rfl, o2, b2⟩
          obtain ⟨ul, HUL⟩ : ∃ ul, Hid ((rowsM l E F ((hs.drop i).take k)).length = ul) := ⟨_, rfl⟩
          obtain ⟨uA, uc, rfl, hu1, _⟩ := o2.form HUL.out
          have B2 := Lib.hid (hbd.out.next b2)
          have ho2 := hod.out.below b2
          have o2b := o2.more hbd.out.size
          have hfr : ∀ g, (Value.slice uA ul uc).ownBlock = some g → ¬ BlkR v vs g := fun g e e2 => by
            have h6 := (o2.lt e).1
            have h7 := (hod.out.lt e2).2
            omega
          have hF0 : i64ok (F : Int) := ⟨by omega, by omega⟩
          have hF1 : i64ok ((F : Int) + M0) := ⟨by have := HFB.out; omega, by have := HFB.out; omega⟩
          have hb3 : Below w2.heap.size w2 (w2.alloc (.cells #[.int .i64 (F : Int), .int .i64 ((F : Int) + M0), .slice uA ul uc] 60)) := below_alloc _ _
          have ho3 := ho2.below hb3
          have o3 := o2b.below hb3
          have hz3 : w.heap.size ≤ w2.heap.size := B2.out.size
          have hlo : out.length ≤ 1048576 := by have := HO.out; omega
          have hbk : ∀ g, v.ownBlock = some g → w.heap.size ≤ g := fun g e => (ho2.lt (List.mem_append.2 (.inl (by simp [e])))).1
          clear b2 o2
          go_wp2_with (at_builtin; refine wpList_gp (.tmp 49) (.tmp 58) w.heap.size v out vs ho3 ⟨(F : Int), (F : Int) + M0, rowsM l E F ((hs.drop i).take k)⟩ ⟨hF0, hF1, o3.ok⟩ (.slice uA ul uc) o3 hfr w2.heap.size (by simp) (by simp) (by simp) hlo (by simp; omega) rfl rfl rfl rfl ?_; intro v7 w7 o7 g7 p7)
          have B7 := Lib.hid (Below.grown (B2.out.next hb3) g7 (by simp; omega) hbk)
          clear g7 p7 hb3 ho3 o3 o2b ho2 hfr hod hbk
          go_loopw [8, 65] (fun q ix w' => ∃ t : Nat, ∃ Mt : Int, ix = .int .i64 (t : Int) ∧ q = .int .i64 Mt ∧ t ≤ k ∧ Hid (moreH (hs.take (i + t)) = Mt) ∧ Below w7.heap.size w7 w') (fun _ ix _ => k - (intOf ix).toNat)
          case atStart => exact ⟨0, M0, rfl, rfl, by omega, HM0.out, Below.refl _ _⟩
          case round =>
            rename World => ws
            obtain ⟨t, Mt, rfl, rfl, ht, HMT, hbs⟩ := hrel
            have hbz := B7.out.next hbs
            have hnk : nx - i = k := by have := HNX.out; omega
            by_cases htk : t < k
            · have hcutH := (HST.out.below hbz).cutG (lo := i) (hi := nx) (by omega) (by omega) hc
              obtain ⟨bt, ot, At, mt, ct, zt, hbt, hzt, t0, t1, t2, hstt, hmct, _, _⟩ := hcutH.at_ (show t < nx - i by omega)
              rw [hbt]
              rw [List.getElem?_take, if_pos (by omega), List.getElem?_drop] at hzt
              have hzb := HMB.out zt (List.mem_of_getElem? hzt)
              have HSN := Lib.hid (moreH_snoc hzt)
              have hMn := HMR.out (i + t + 1)
              have hMt := HMR.out (i + t)
              rw [HMT.out] at hMt HSN
              have HLT := Lib.hid hstt.len
              obtain ⟨zb0, zb1, zb2, zb3, zb4⟩ := hzb
              obtain ⟨hMt0, hMt1⟩ := hMt
              have hmt : mt ≤ 40 := by rw [← HLT.out]; exact zb4
              obtain ⟨ta, tg, tn⟩ := zt
              dsimp only at *
              have q1 : IntKind.i64.wrap ((mt : Int) - tg) = (mt : Int) - tg := by rw [IntKind.wrap_i64]; omega
              have q2 : IntKind.i64.wrap (Mt + ((mt : Int) - tg)) = Mt + ((mt : Int) - tg) := by rw [IntKind.wrap_i64]; omega
              have hi2 : (t : Int) < ((nx - i : Nat) : Int) := by omega
              clear hzt hcutH hbt hMn
              go_wp2
              go_roundw
              case rel => exact ⟨t + 1, Mt + ((mt : Int) - tg), by go_num, rfl, by omega, by rw [← Nat.add_assoc, HSN.out, HLT.out]; rfl, hbs.next (below_alloc _ _)⟩
              case measure => simp [intOf]; omega
            · have htk2 : t = k := by omega
              subst htk2
              have HMT2 := Lib.hid (show moreH (hs.take nx) = Mt by rw [← HNX.out]; exact HMT.out)
              go_wp2
              go_roundw
              case rel => exact ⟨v7, _, out ++ [⟨(F : Int), (F : Int) + M0, rowsM l E F ((hs.drop i).take t)⟩], Mt, nx, f', rfl, rfl, rfl, HMT2.out, hkn, o7.below hbs, show _ ≤ _ by rw [List.length_append]; have := HO.out; simp; omega, hfu2, show _ = _ by
                rw [← HP.out, HM0.out, HG2.out]
                simp only [List.append_assoc, List.singleton_append], hbz⟩
              case measure => simp [intOf]; omega
    · have hfin := Lib.hid (show out = groupsF l W hs.length 0 hs by rw [← HP.out, List.drop_eq_nil_of_le (by rw [HN.out]; omega), groupsF_nil, List.append_nil])
      go_wp2
      go_ret
      exact ⟨v, vs, rfl, by rw [← hfin.out]; exact ho, hb⟩

set_option maxHeartbeats 1000000 in
theorem specGroupsOf_any (a : Option Addr) (nl cl : Nat) (l : List ByteArray) (b0 : Option Addr) (n c : Nat) (hs : List Hk) (Wi : Int) (w : World) (hl : Strs w a nl l) (hcl : nl ≤ cl) (hh : Hks w b0 n hs) (hc : n ≤ c) (hnew : ∀ x ∈ hs, x.new.length ≤ 1048576) (hnl : nl ≤ 1048576) :
    Calls Tryz.prog 55 #[.slice a nl cl, .slice b0 n c, .int .i64 Wi] w fun e w' => ∃ v vs, e = .returned (.tuple #[v, .bool (groupsOf l hs Wi).2]) ∧ OwnGp w' w.heap.size v (groupsOf l hs Wi).1 vs ∧ Below w.heap.size w w' := by
  have HPO := Lib.hid (patch_two l hs)
  cases hq : patchOk l hs
  · have hf := Lib.hid (show groupsOf l hs Wi = ([], false) from if_neg (by simp [hq]))
    have HQ := Lib.hid hq
    clear hq
    go_enter Tryz.func55, Tryz.ntmps55
    go_wp2_with fail
    refine (specPatch_any a nl cl l b0 n c hs _ hl hcl hh hnew hnl).mono ?_
    rintro e w1 ⟨v, rfl, o1, b1⟩
    rw [HPO.out, HQ.out]
    go_wp2
    go_ret2
    exact ⟨_, [], by rw [hf.out]; rfl, by rw [hf.out]; exact OwnGp.nil_, b1⟩
  have HQ := Lib.hid hq
  cases hr : (decide (0 ≤ Wi) && decide (Wi ≤ 20))
  · have hf := Lib.hid (show groupsOf l hs Wi = ([], false) from if_neg (fun h => by
      rw [decide_eq_true h.2.1, decide_eq_true h.2.2] at hr; cases hr))
    have HR := Lib.hid hr
    clear hq hr
    go_enter Tryz.func55, Tryz.ntmps55
    go_wp2_with fail
    refine (specPatch_any a nl cl l b0 n c hs _ hl hcl hh hnew hnl).mono ?_
    rintro e w1 ⟨v, rfl, o1, b1⟩
    rw [HPO.out, HQ.out]
    go_wp2_with fail
    refine (l1In_any _ _ _ _).mono ?_
    rintro e w' ⟨rfl, rfl⟩
    rw [HR.out]
    go_wp2
    go_ret2
    exact ⟨_, [], by rw [hf.out]; rfl, by rw [hf.out]; exact OwnGp.nil_, b1⟩
  · have HR := Lib.hid hr
    have hb : 0 ≤ Wi ∧ Wi ≤ 20 := by simpa using hr
    obtain ⟨W, rfl⟩ := Int.eq_ofNat_of_zero_le hb.1
    have hW : W ≤ 20 := by have := hb.2; omega
    have hf := Lib.hid (show groupsOf l hs (W : Int) = (groupsF l W hs.length 0 hs, true) from if_pos ⟨hq, hb.1, hb.2⟩)
    have HG := Lib.hid (show goodH l.length hs = true by simp only [patchOk, Bool.and_eq_true] at hq; exact hq.1.2)
    clear hq hr hb
    go_enter Tryz.func55, Tryz.ntmps55
    go_wp2_with fail
    refine (specPatch_any a nl cl l b0 n c hs _ hl hcl hh hnew hnl).mono ?_
    rintro e w1 ⟨v, rfl, o1, b1⟩
    rw [HPO.out, HQ.out]
    go_wp2_with fail
    refine (l1In_any _ _ _ _).mono ?_
    rintro e w' ⟨rfl, rfl⟩
    rw [HR.out]
    have hz := b1.size
    go_wp2_with fail
    refine (l6Groups_any a nl cl l b0 n c hs W _ (hl.below b1) hcl (hh.below b1) hc HG.out hW).mono ?_
    rintro e w2 ⟨v2, vs2, rfl, o2, b2⟩
    go_wp2
    go_ret2
    exact ⟨v2, vs2, by rw [hf.out]; rfl, by rw [hf.out]; exact o2.more hz, b1.next b2⟩

end Go.Proofs.YtkamenidgkjodaaGreatDoor
