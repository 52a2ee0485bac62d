/-
  The model's table of what both share.
  The model's table, whole.
-/
import Derived.Test.YtnnaigoomipklaaGreatDoorOiDHp3
import Derived.Deep.RegionHeld3
set_option linter.unusedSimpArgs false
set_option linter.unusedVariables false
namespace Go.Proofs.YtnnaigoomipklaaGreatDoor
open Go.RowKit M

theorem l1Most_any (a b : Int) (w : World) : Calls Tryz.prog 234 #[.int .i64 a, .int .i64 b] w fun e w' => e = .returned (.int .i64 (max a b)) ∧ w = w' := by
  by_cases h : b < a
  · have hd : decide (b < a) = true := by simpa using h
    go_enter Tryz.func234, Tryz.ntmps234
    go_wp2
    go_ret
    exact ⟨ret_int (by omega), rfl⟩
  · have hd : decide (b < a) = false := by simpa using h
    go_enter Tryz.func234, Tryz.ntmps234
    go_wp2
    go_ret
    exact ⟨ret_int (by omega), rfl⟩

def reps (z : Value) (n : Nat) : Array Value := (List.replicate n z).toArray
theorem run_make_one {P : Program} (t e : TypeId) (i : TypeInfo) (z : Value) (bytes : Nat) (ht : P.underlying t = some (.slice e)) (hi : P.info? e = some i) (hz : i.zero = some z) (hs : i.size = 1) (hb : i.bytes = bytes) (hby : bytes ≤ 24) (hc : z.cells = #[z])
    (n : Nat) (hn : n ≤ 1000000) (w : World) :
    (Instr.makeSlice t (.int .i64 (n : Int)) (.int .i64 (n : Int))).run P w = .ok (.slice (some ⟨w.heap.size, 0, none⟩) n n) (w.alloc (.cells (reps z n) e)) := by
  have hr := run_make (P := P) w t e i _ ht hi hz .i64 .i64 n n (by omega) (by omega) (by rw [hb]; have h7 := Nat.mul_le_mul hby hn; rw [← Int.natCast_mul]; omega) (by omega)
  have e1 : madeCells z.cells ((n : Int).toNat * i.size) = reps z n := by
    apply Array.ext'
    rw [hs, Nat.mul_one, Int.toNat_natCast, hc, toList_madeCells_one]
    simp [reps]
  rw [e1] at hr
  simpa using hr
theorem int_info : (Tryz.prog.info? 3).map (fun i => (i.zero, i.size, i.bytes)) = some (some (.int .i64 0), 1, 8) := by kernel_rfl
theorem make_rows (n : Nat) (hn : n ≤ 1000) (w : World) : (Instr.makeSlice 174 (.int .i64 (n : Int)) (.int .i64 (n : Int))).run Tryz.prog w = .ok (.slice (some ⟨w.heap.size, 0, none⟩) n n) (w.alloc (.cells (reps (.slice none 0 0) n) 220)) := by
  obtain ⟨i, h1, h2, h3, h4⟩ := info_parts ints_info
  exact run_make_one _ _ i _ 24 Tryz.underlying174 h1 h2 h3 h4 (by omega) (by simp [Value.cells]) n (by omega) w
theorem make_ints (n : Nat) (hn : n ≤ 1000) (w : World) : (Instr.makeSlice 220 (.int .i64 (n : Int)) (.int .i64 (n : Int))).run Tryz.prog w = .ok (.slice (some ⟨w.heap.size, 0, none⟩) n n) (w.alloc (.cells (reps (.int .i64 0) n) 3)) := by
  obtain ⟨i, h1, h2, h3, h4⟩ := info_parts int_info
  exact run_make_one _ _ i _ 8 Tryz.underlying220 h1 h2 h3 h4 (by omega) (by simp [Value.cells]) n (by omega) w

/-- The model's table: k of its rows are made; T tells what they hold. -/
structure TabS (w : World) (g n1 m1 k : Nat) (gs : List Nat) (T : Nat → Nat → Nat) : Prop where
  len : gs.length = k
  size : g < w.heap.size
  row : ∃ xs : List Value, w.heap[g]? = some (.cells xs.toArray 220 (0, 0)) ∧ xs.length = n1 ∧ ∀ (i x : Nat), gs[i]? = some x → xs[i]? = some (Value.slice (some ⟨x, 0, none⟩) m1 m1)
  inner : ∀ (i x : Nat), gs[i]? = some x → ∃ ys : List Value, w.heap[x]? = some (.cells ys.toArray 3 (0, 0)) ∧ ys.length = m1 ∧ ∀ j, j < m1 → ys[j]? = some (.int .i64 (T i j : Int))
  low : ∀ (i x : Nat), gs[i]? = some x → g < x
  apart : ∀ (i j x : Nat), gs[i]? = some x → gs[j]? = some x → i = j
section
variable {w w' : World} {g n1 m1 k : Nat} {gs : List Nat} {T : Nat → Nat → Nat}
theorem TabS.below (h : TabS w g n1 m1 k gs T) (hb : Below w.heap.size w w') : TabS w' g n1 m1 k gs T := by
  refine ⟨h.len, Nat.lt_of_lt_of_le h.size hb.size, ?_, fun i x hx => ?_, h.low, h.apart⟩
  · obtain ⟨xs, h1, h2⟩ := h.row
    exact ⟨xs, (hb.block g h.size).trans h1, h2⟩
  · obtain ⟨ys, h1, h2⟩ := h.inner i x hx
    exact ⟨ys, (hb.block x (Array.getElem?_eq_some_iff.1 h1).1).trans h1, h2⟩
theorem TabS.outer (h : TabS w g n1 m1 k gs T) {i x : Nat} (hx : gs[i]? = some x) : w.cell? ⟨g, i, none⟩ = some (.slice (some ⟨x, 0, none⟩) m1 m1) := by
  obtain ⟨xs, h1, h2, h3⟩ := h.row
  simp [World.cell?, h1, h3 i x hx]
theorem TabS.cell (h : TabS w g n1 m1 k gs T) {i x j : Nat} (hx : gs[i]? = some x) (hj : j < m1) : w.cell? ⟨x, j, none⟩ = some (.int .i64 (T i j : Int)) := by
  obtain ⟨ys, h1, h2, h3⟩ := h.inner i x hx
  simp [World.cell?, h1, h3 j hj]
theorem TabS.free (h : TabS w g n1 m1 k gs T) {i x : Nat} (hx : gs[i]? = some x) (j : Nat) : w.frozen? ⟨x, j, none⟩ = false := by
  obtain ⟨ys, h1, h2, h3⟩ := h.inner i x hx
  simp [World.frozen?, h1]
theorem TabS.get (h : TabS w g n1 m1 k gs T) {i : Nat} (hi : i < k) : ∃ x, gs[i]? = some x := ⟨_, List.getElem?_eq_getElem (by rw [h.len]; exact hi)⟩
theorem TabS.lt (h : TabS w g n1 m1 k gs T) {i x : Nat} (hx : gs[i]? = some x) : x < w.heap.size := by
  obtain ⟨ys, h1, h2, h3⟩ := h.inner i x hx
  exact (Array.getElem?_eq_some_iff.1 h1).1
theorem TabS.set (h : TabS w g n1 m1 k gs T) {i x j : Nat} (hx : gs[i]? = some x) (hj : j < m1) (v : Nat) : TabS (w.setCell ⟨x, j, none⟩ (.int .i64 (v : Int))) g n1 m1 k gs (upd T i j v) := by
  have hw := Wrote.set (fun b => b = x) w ⟨x, j, none⟩ (.int .i64 (v : Int)) rfl
  have hlow := h.low i x hx
  refine ⟨h.len, Nat.lt_of_lt_of_le h.size hw.size, ?_, fun i' x' hx' => ?_, h.low, h.apart⟩
  · obtain ⟨xs, h1, h2⟩ := h.row
    exact ⟨xs, (hw.block g h.size (by omega)).trans h1, h2⟩
  · obtain ⟨ys, h1, h2, h3⟩ := h.inner i' x' hx'
    by_cases e : x' = x
    · subst e
      obtain rfl : i' = i := h.apart i' i x' hx' hx
      refine ⟨ys.set j (.int .i64 (v : Int)), ?_, by simp [h2], fun j' hj' => ?_⟩
      · have := heap_setCell_same w x' j _ _ (.int .i64 (v : Int)) h1
        rw [this]
        simp
      · unfold upd
        rw [List.getElem?_set]
        by_cases e : j = j'
        · rw [if_pos e, if_pos (by omega), if_pos ⟨rfl, e.symm⟩]
        · rw [if_neg e, if_neg (fun h => e h.2.symm)]
          exact h3 j' hj'
    · refine ⟨ys, (hw.block x' (Array.getElem?_eq_some_iff.1 h1).1 e).trans h1, h2, fun j' hj' => ?_⟩
      unfold upd
      rw [if_neg (fun h => e (by have e1 := h.1; subst e1; rw [hx] at hx'; injection hx' with hx'; exact hx'.symm))]
      exact h3 j' hj'
theorem TabS.start (w : World) (n1 m1 : Nat) : TabS (w.alloc (.cells (reps (.slice none 0 0) n1) 220)) w.heap.size n1 m1 0 [] (fun _ _ => 0) :=
  ⟨rfl, by simp, ⟨List.replicate n1 (.slice none 0 0), heap_alloc_new w _, by simp, fun i x h => by simp at h⟩, fun i x h => by simp at h, fun i x h => by simp at h, fun i j x h => by simp at h⟩
theorem TabS.cellOf (h : TabS w g n1 m1 k gs T) {i : Nat} (hi : i < n1) : (∃ u, w.cell? ⟨g, i, none⟩ = some u) ∧ ∀ j, w.frozen? ⟨g, j, none⟩ = false := by
  obtain ⟨xs, h1, h2, h3⟩ := h.row
  refine ⟨⟨xs[i]'(by omega), ?_⟩, fun j => by simp [World.frozen?, h1]⟩
  simp [World.cell?, h1, h2, hi]
/-- One more row is made. -/
theorem TabS.row_ (h : TabS w g n1 m1 k gs (fun _ _ => 0)) (hk : k < n1) : TabS ((w.setCell ⟨g, k, none⟩ (.slice (some ⟨w.heap.size, 0, none⟩) m1 m1)).alloc (.cells (reps (.int .i64 0) m1) 3)) g n1 m1 (k + 1) (gs ++ [w.heap.size]) (fun _ _ => 0) := by
  have hw := Wrote.set (fun b => b = g) w ⟨g, k, none⟩ (.slice (some ⟨w.heap.size, 0, none⟩) m1 m1) rfl
  have hb := below_alloc (w.setCell ⟨g, k, none⟩ (.slice (some ⟨w.heap.size, 0, none⟩) m1 m1)) (.cells (reps (.int .i64 0) m1) 3)
  have hz : (w.setCell ⟨g, k, none⟩ (.slice (some ⟨w.heap.size, 0, none⟩) m1 m1)).heap.size = w.heap.size := by simp [World.setCell]
  have hsz := h.size
  refine ⟨by simp [h.len], Nat.lt_of_lt_of_le h.size (Nat.le_trans hw.size hb.size), ?_, fun i x hx => ?_, fun i x hx => ?_, fun i j x hi hj => ?_⟩
  · obtain ⟨xs, h1, h2, h3⟩ := h.row
    refine ⟨xs.set k (.slice (some ⟨w.heap.size, 0, none⟩) m1 m1), ?_, by simp [h2], fun i x hx => ?_⟩
    · have := heap_setCell_same w g k _ _ (.slice (some ⟨w.heap.size, 0, none⟩) m1 m1) h1
      rw [hb.block g (by omega), this]
      simp
    · rcases list_snoc_get hx with ⟨hi, hx⟩ | ⟨hi, rfl⟩
      · exact set_ne (h3 i x hx) (by rw [h.len] at hi; omega)
      · rw [hi, h.len]; exact set_eq (by omega)
  · rcases list_snoc_get hx with ⟨hi, hx⟩ | ⟨hi, rfl⟩
    · obtain ⟨ys, h1, h2⟩ := h.inner i x hx
      have hlt := (Array.getElem?_eq_some_iff.1 h1).1
      exact ⟨ys, (hb.block x (by omega)).trans ((hw.block x hlt (by have := h.low i x hx; omega)).trans h1), h2⟩
    · refine ⟨List.replicate m1 (.int .i64 0), heap_at hz.symm, by simp, fun j hj => by simp [hj]⟩
  · rcases list_snoc_get hx with ⟨hi, hx⟩ | ⟨hi, rfl⟩
    · exact h.low i x hx
    · exact hsz
  · rcases list_snoc_get hi with ⟨hk1, hi1⟩ | ⟨hk1, e1⟩
    · rcases list_snoc_get hj with ⟨hk2, hj1⟩ | ⟨hk2, e2⟩
      · exact h.apart i j x hi1 hj1
      · have := h.lt hi1; omega
    · rcases list_snoc_get hj with ⟨hk2, hj1⟩ | ⟨hk2, e2⟩
      · have := h.lt hj1; omega
      · omega
end

end Go.Proofs.YtnnaigoomipklaaGreatDoor

namespace Go.Proofs.YtnnaigoomipklaaGreatDoor.M

/-- Rows from r on are as they will be. -/
def doneS (a b : List ByteArray) (T : Nat → Nat → Nat) (r : Nat) : Prop := (∀ x y, r ≤ x → x ≤ a.length → y ≤ b.length → T x y = tab a b x y) ∧ ∀ x, T x b.length = 0
def doneR (a b : List ByteArray) (T : Nat → Nat → Nat) (i c : Nat) : Prop := ∀ y, c ≤ y → y ≤ b.length → T i y = tab a b i y
theorem doneS_start (a b : List ByteArray) : doneS a b (fun _ _ => 0) a.length := ⟨fun x y hx _ _ => (tab_end hx y).symm, fun _ => rfl⟩
theorem doneR_start {a b : List ByteArray} {T : Nat → Nat → Nat} {r i : Nat} (h : doneS a b T r) : doneR a b T i b.length := fun y h1 h2 => by
  rw [show y = b.length from by omega, h.2, tab_end' (Nat.le_refl _)]
theorem doneS_next {a b : List ByteArray} {T : Nat → Nat → Nat} {i : Nat} (h : doneS a b T (i + 1)) (hr : doneR a b T i 0) : doneS a b T i := ⟨fun x y hx hxl hy => by
  by_cases e : x = i
  · rw [e]; exact hr y (Nat.zero_le _) hy
  · exact h.1 x y (by omega) hxl hy, h.2⟩
theorem doneS_upd {a b : List ByteArray} {T : Nat → Nat → Nat} {i j v : Nat} (h : doneS a b T (i + 1)) (hj : j < b.length) : doneS a b (upd T i j v) (i + 1) := ⟨fun x y hx hxl hy => by
  unfold upd; rw [if_neg (by omega)]; exact h.1 x y hx hxl hy, fun x => by unfold upd; rw [if_neg (by omega)]; exact h.2 x⟩
theorem doneR_upd {a b : List ByteArray} {T : Nat → Nat → Nat} {i j v : Nat} (h : doneR a b T i (j + 1)) (hv : v = tab a b i j) : doneR a b (upd T i j v) i j := fun y hy hyl => by
  unfold upd
  by_cases e : y = j
  · rw [if_pos ⟨rfl, e⟩, e, hv]
  · rw [if_neg (by omega)]; exact h y (by omega) hyl
theorem upd_upd (T : Nat → Nat → Nat) (i j v u : Nat) : upd (upd T i j v) i j u = upd T i j u := by
  funext x y
  unfold upd
  split <;> rfl
theorem upd_at (T : Nat → Nat → Nat) (i j v : Nat) : upd T i j v i j = v := by unfold upd; rw [if_pos ⟨rfl, rfl⟩]
theorem upd_off (T : Nat → Nat → Nat) {i j v x y : Nat} (h : x ≠ i) : upd T i j v x y = T x y := by unfold upd; rw [if_neg (fun e => h e.1)]

end Go.Proofs.YtnnaigoomipklaaGreatDoor.M
namespace Go.Proofs.YtnnaigoomipklaaGreatDoor
open Go.RowKit M

theorem l1Most_still (a b : Int) (w : World) : Calls Tryz.prog 234 #[.int .i64 a, .int .i64 b] w fun e w' => e = .returned (.int .i64 (max a b)) ∧ w' = w := (l1Most_any a b w).mono fun e w' h => ⟨h.1, h.2.symm⟩

set_option maxHeartbeats 4000000 in
set_option maxRecDepth 100000 in
theorem l3Table_any (aA : Option Addr) (na ca : Nat) (la : List ByteArray) (bA : Option Addr) (nb cb : Nat) (lb : List ByteArray) (w : World) (ha : Strs w aA na la) (hbS : Strs w bA nb lb) (hna : na ≤ 40) (hnb : nb ≤ 40) :
    Calls Tryz.prog 217 #[.slice aA na ca, .slice bA nb cb] w fun e w' => ∃ g gs T, e = .returned (.slice (some ⟨g, 0, none⟩) (na + 1) (na + 1)) ∧ TabS w' g (na + 1) (nb + 1) (na + 1) gs T ∧ (∀ i j, i ≤ na → j ≤ nb → T i j = tab la lb i j) ∧ w.heap.size ≤ g ∧ Below w.heap.size w w' := by
  have HNA := Lib.hid ha.len
  have HNB := Lib.hid hbS.len
  have HA := Lib.hid ha
  have HB := Lib.hid hbS
  clear ha hbS
  obtain ⟨n1, Hn1⟩ : ∃ n1, Hid (n1 = na + 1) := ⟨_, rfl⟩
  obtain ⟨m1, Hm1⟩ : ∃ m1, Hid (m1 = nb + 1) := ⟨_, rfl⟩
  have hn1I : (na : Int) + 1 = (n1 : Int) := by rw [Hn1.out]; omega
  have hm1I : (nb : Int) + 1 = (m1 : Int) := by rw [Hm1.out]; omega
  have hn1b : n1 ≤ 41 := by rw [Hn1.out]; omega
  have hm1b : m1 ≤ 41 := by rw [Hm1.out]; omega
  rw [← Hn1.out, ← Hm1.out]
  have mk1 := make_rows n1 (by omega)
  have mk2 := make_ints m1 (by omega)
  have HT0 := Lib.hid (TabS.start w n1 m1)
  have HB0 := Lib.hid (below_alloc w (.cells (reps (.slice none 0 0) n1) 220))
  go_enter Tryz.func217, Tryz.ntmps217
  go_wp2
  go_loopw [15] (fun x w' => ∃ k : Nat, ∃ gs, x = .int .i64 k ∧ k ≤ n1 ∧ TabS w' w.heap.size n1 m1 k gs (fun _ _ => 0) ∧ Below w.heap.size w w') (fun x _ => n1 - (intOf x).toNat)
  case atStart => exact ⟨0, [], rfl, by omega, HT0.out, HB0.out⟩
  case round =>
    obtain ⟨k, gs, rfl, hk, HS, hb⟩ := hrel
    by_cases hlt : k < n1
    · obtain ⟨⟨u, hu⟩, hf⟩ := HS.cellOf hlt
      have HS1 := Lib.hid (HS.row_ hlt)
      have hsz := HS.size
      have hu' : ∀ o, (wr.alloc o).cell? ⟨w.heap.size, k, none⟩ = some u := fun o => cell_keep (below_alloc wr o) hu
      have hf' : ∀ o j, (wr.alloc o).frozen? ⟨w.heap.size, j, none⟩ = false := fun o j => ((below_alloc wr o).frozen hsz).trans (hf j)
      go_wp2
      go_roundw
      case rel => exact ⟨k + 1, _, by go_num, by omega, HS1.out, (hb.setCell (Nat.le_refl _) _).next (below_alloc _ _)⟩
      case measure => simp [intOf]; omega
    · obtain rfl : k = n1 := by omega
      go_wp2
      go_loopw [7] (fun x w' => ∃ r : Nat, ∃ T, x = .int .i64 ((r : Int) - 1) ∧ r ≤ na ∧ TabS w' w.heap.size k m1 k gs T ∧ Hid (doneS la lb T r) ∧ Below w.heap.size w w') (fun x _ => (intOf x + 1).toNat)
      case atStart => exact ⟨na, fun _ _ => 0, rfl, by omega, HS, by rw [← HNA.out]; exact doneS_start la lb, hb⟩
      case round =>
        obtain ⟨r, T, rfl, hr, HS, HD, hb⟩ := hrel
        cases r with
        | zero =>
          go_wp2
          go_ret
          exact ⟨_, gs, T, rfl, HS, fun i j hi hj => HD.out.1 i j (Nat.zero_le _) (by rw [HNA.out]; exact hi) (by rw [HNB.out]; exact hj), Nat.le_refl _, hb⟩
        | succ i =>
          rw [show ((i + 1 : Nat) : Int) - 1 = (i : Int) from by omega]
          go_wp2
          go_loopw [8] (fun x w' => ∃ c : Nat, ∃ T, x = .int .i64 ((c : Int) - 1) ∧ c ≤ nb ∧ TabS w' w.heap.size k m1 k gs T ∧ Hid (doneS la lb T (i + 1)) ∧ Hid (doneR la lb T i c) ∧ Below w.heap.size w w') (fun x _ => (intOf x + 1).toNat)
          case atStart => exact ⟨nb, T, rfl, by omega, HS, HD, by rw [← HNB.out]; exact doneR_start HD.out, hb⟩
          case round =>
            obtain ⟨c, T, rfl, hc, HS, HD, HR, hb⟩ := hrel
            cases c with
            | zero =>
              go_wp2
              go_roundw
              case rel => exact ⟨i, T, rfl, by omega, HS, doneS_next HD.out HR.out, hb⟩
              case measure => simp [intOf]
            | succ j =>
              rw [show ((j + 1 : Nat) : Int) - 1 = (j : Int) from by omega]
              obtain ⟨i', Hi'⟩ : ∃ i', Hid (i' = i + 1) := ⟨_, rfl⟩
              obtain ⟨j', Hj'⟩ : ∃ j', Hid (j' = j + 1) := ⟨_, rfl⟩
              have hi'I : IntKind.i64.wrap ((i : Int) + 1) = (i' : Int) := by rw [Hi'.out, IntKind.wrap_i64]; omega
              have hj'I : IntKind.i64.wrap ((j : Int) + 1) = (j' : Int) := by rw [Hj'.out, IntKind.wrap_i64]; omega
              have hik : i < k := by rw [Hn1.out]; omega
              have hik' : i' < k := by rw [Hn1.out, Hi'.out]; omega
              have hjm : j < m1 := by rw [Hm1.out]; omega
              have hjm' : j' < m1 := by rw [Hm1.out, Hj'.out]; omega
              obtain ⟨x, hx⟩ := HS.get hik
              obtain ⟨x', hx'⟩ := HS.get hik'
              have HX := Lib.hid hx
              have HX' := Lib.hid hx'
              have k1 := HS.outer hx
              have k2 := HS.outer hx'
              have k3 := HS.cell hx hjm
              have k4 := HS.cell hx hjm'
              have k5 := HS.cell hx' hjm
              have k6 := HS.cell hx' hjm'
              have f1 := HS.free hx
              have hxx : x ≠ x' := fun e => by
                have h7 := HS.apart i i' x hx (by rw [e]; exact hx')
                have h8 := Hi'.out
                omega
              have hxg : x ≠ w.heap.size := by have := HS.low i x hx; omega
              have hjj : j ≠ j' := by rw [Hj'.out]; omega
              clear hx hx'
              obtain ⟨t4, Ht4⟩ : ∃ t, Hid (T i j' = t) := ⟨_, rfl⟩
              obtain ⟨t5, Ht5⟩ : ∃ t, Hid (T i' j = t) := ⟨_, rfl⟩
              obtain ⟨t6, Ht6⟩ : ∃ t, Hid (T i' j' = t) := ⟨_, rfl⟩
              rw [Ht4.out] at k4
              rw [Ht5.out] at k5
              rw [Ht6.out] at k6
              have HSS := Lib.hid HS
              clear HS
              go_wp2
              go_region_held3 (fun w' => w'.cell? ⟨w.heap.size, i, none⟩ = some (.slice (some ⟨x, 0, none⟩) m1 m1) ∧ w'.cell? ⟨w.heap.size, i', none⟩ = some (.slice (some ⟨x', 0, none⟩) m1 m1) ∧ w'.cell? ⟨x, j', none⟩ = some (.int .i64 (t4 : Int)) ∧ w'.cell? ⟨x', j, none⟩ = some (.int .i64 (t5 : Int)))
                (first | exact ⟨k1, k2, k4, k5⟩ | exact ⟨(World.cell?_setCell_other wr ⟨x, j, none⟩ ⟨w.heap.size, i, none⟩ _ (fun e => hxg (by injection e))).trans k1, (World.cell?_setCell_other wr ⟨x, j, none⟩ ⟨w.heap.size, i', none⟩ _ (fun e => hxg (by injection e))).trans k2, (World.cell?_setCell_other wr ⟨x, j, none⟩ ⟨x, j', none⟩ _ (fun e => hjj (by injection e))).trans k4, (World.cell?_setCell_other wr ⟨x, j, none⟩ ⟨x', j, none⟩ _ (fun e => hxx (by injection e))).trans k5⟩ | go_keep)
                (first
                  | (go_at_call 234; refine (l1Most_any (t5 : Int) (t4 : Int) _).mono ?_; rintro e w5 ⟨rfl, rfl⟩)
                  | fail)
              have hmx : max (t5 : Int) (t4 : Int) = ((max t5 t4 : Nat) : Int) := by omega
              rw [hmx]
              obtain ⟨v1, Hv1⟩ : ∃ v1, Hid (max t5 t4 = v1) := ⟨_, rfl⟩
              rw [Hv1.out]
              obtain ⟨W1, HW1⟩ : ∃ W1, Hid (W1 = wr.setCell ⟨x, j, none⟩ (.int .i64 (v1 : Int))) := ⟨_, rfl⟩
              rw [← HW1.out]
              obtain ⟨W2, HW2⟩ : ∃ W2, Hid (W2 = W1.drew) := ⟨_, rfl⟩
              have HS2 := Lib.hid (show TabS W2 w.heap.size k m1 k gs (upd T i j v1) by rw [HW2.out, HW1.out]; exact (HSS.out.set HX.out hjm v1).below (Below.refl _ _).drew)
              have B2 := Lib.hid (show Below w.heap.size w W2 by rw [HW2.out, HW1.out]; exact (hb.setCell (by have := HSS.out.low i x HX.out; show w.heap.size ≤ x; omega) _).drew)
              rw [← HW2.out]
              obtain ⟨b1, o1, s, rfl, hs, hs2, cs⟩ := (HA.out.below B2.out).at_ (show i < na by omega)
              obtain ⟨b2, o2, t, rfl, ht, ht2, ct⟩ := (HB.out.below B2.out).at_ (show j < nb by omega)
              have HHs := Lib.hid hs
              have HHt := Lib.hid ht
              have hbnd := Lib.hid (tab_near HHs.out HHt.out)
              have E4 := Lib.hid (show t4 = tab la lb i (j + 1) by rw [← Ht4.out, Hj'.out]; exact HR.out (j + 1) (Nat.le_refl _) (by rw [HNB.out]; omega))
              have E5 := Lib.hid (show t5 = tab la lb (i + 1) j by rw [← Ht5.out, Hi'.out]; exact HD.out.1 (i + 1) j (Nat.le_refl _) (by rw [HNA.out]; omega) (by rw [HNB.out]; omega))
              have E6 := Lib.hid (show t6 = tab la lb (i + 1) (j + 1) by rw [← Ht6.out, Hi'.out, Hj'.out]; exact HD.out.1 (i + 1) (j + 1) (Nat.le_refl _) (by rw [HNA.out]; omega) (by rw [HNB.out]; omega))
              have h640 : t6 ≤ 40 := by rw [E6.out]; have := (tab_le la lb (i + 1) (j + 1)).1; rw [HNA.out] at this; omega
              clear hs ht k1 k2 k3 k4 k5 k6 f1 hmx hb
              by_cases hst : s = t
              · subst hst
                have hbq := beq_same s
                go_wp2
                go_quiet (fail)
                go_wp2
                obtain ⟨W3, HW3⟩ : ∃ W3, Hid (W3 = W2.drewN nq) := ⟨_, rfl⟩
                have HS3 := Lib.hid (show TabS W3 w.heap.size k m1 k gs (upd T i j v1) by rw [HW3.out]; exact HS2.out.below (below_drewN (Below.refl _ _) _))
                have B3 := Lib.hid (show Below w.heap.size w W3 by rw [HW3.out]; exact below_drewN B2.out _)
                rw [← HW3.out]
                have k1 := HS3.out.outer HX.out
                have k2 := HS3.out.outer HX'.out
                have k3 := HS3.out.cell HX.out hjm
                have k6 := HS3.out.cell HX'.out hjm'
                have f1 := HS3.out.free HX.out
                rw [upd_at] at k3
                rw [upd_off T (by rw [Hi'.out]; omega), Ht6.out] at k6
                have ht6I : IntKind.i64.wrap ((t6 : Int) + 1) = ((t6 + 1 : Nat) : Int) := by rw [IntKind.wrap_i64]; omega
                obtain ⟨t7, Ht7⟩ : ∃ t, Hid (t6 + 1 = t) := ⟨_, rfl⟩
                rw [Ht7.out] at ht6I
                clear cs ct
                refine wp_region_still_tail 23 (by kernel_rfl) (by kernel_rfl) ?_
                simp only [List.take_succ_cons, List.take_zero, List.drop_succ_cons, List.drop_zero]
                repeat still_step
                still_call (l1Most_still (v1 : Int) (t7 : Int) _)
                repeat still_step
                refine wpStill_nil ?_
                go_wp2
                go_roundw
                case rel =>
                  rw [show max (v1 : Int) (t7 : Int) = ((max v1 t7 : Nat) : Int) from by omega]
                  refine ⟨j, upd T i j (max v1 t7), rfl, by omega, ?_, doneS_upd HD.out (by rw [HNB.out]; omega), doneR_upd HR.out ?_, (B3.out.setCell (by have := HSS.out.low i x HX.out; show w.heap.size ≤ x; omega) _).drew⟩
                  · have := (HS3.out.set HX.out hjm (max v1 t7)).below (Below.refl _ _).drew
                    rw [upd_upd] at this
                    exact this
                  · have h1 := hbnd.out
                    rw [tab_same HHs.out HHt.out, ← Hv1.out, ← Ht7.out, E4.out, E5.out, E6.out]
                    omega
                case measure => simp [intOf]
              · have hbq := beq_other hst
                go_wp2
                go_quiet (fail)
                go_wp2
                go_roundw
                case rel => exact ⟨j, upd T i j v1, rfl, by omega, HS2.out.below (below_drewN (Below.refl _ _) _), doneS_upd HD.out (by rw [HNB.out]; omega), doneR_upd HR.out (by rw [tab_other HHs.out HHt.out hst, ← Hv1.out, E4.out, E5.out]), below_drewN B2.out _⟩
                case measure => simp [intOf]

end Go.Proofs.YtnnaigoomipklaaGreatDoor
