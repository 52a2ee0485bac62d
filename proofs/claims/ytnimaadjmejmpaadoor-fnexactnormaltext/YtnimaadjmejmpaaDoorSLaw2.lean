/-
  The laws' own small functions on steps: compared, copied, marked.
-/
import Derived.Test.YtnimaadjmejmpaaDoorSLaw
set_option linter.unusedSimpArgs false
set_option linter.unusedVariables false
namespace Go.Proofs.YtnimaadjmejmpaaDoor
open Go.RowKit Go.ChangeShapes Go.WideShapes M

set_option maxHeartbeats 1000000 in
theorem eqStepS_any (a b : Option Addr) (n m c d : Nat) (l r : List Sp) (w : World) (hl : Sps w a n l) (hr : Sps w b m r) :
    Calls Tryd.prog 17 #[.slice a n c, .slice b m d] w fun e w' => e = .returned (.bool (eqPS l r)) ∧ Below w.heap.size w w' := by
  have HL := Lib.hid hl.len
  have HR := Lib.hid hr.len
  have hlim := hl.lim
  unfold maxLen at hlim
  by_cases hnm : n = m
  · subst hnm
    have hq : ((n : Int) != (n : Int)) = false := by simp
    go_enter Tryd.func17, Tryd.ntmps17
    go_wp2
    go_loopw [5] (fun i w' => ∃ k : Nat, i = .int .i64 k ∧ k ≤ n ∧ Hid (∀ j s t, j < k → l[j]? = some s → r[j]? = some t → eqP s t = true) ∧ Below w.heap.size w w') (fun i _ => n - (intOf i).toNat)
    case atStart => exact ⟨0, rfl, by omega, fun j s t h => by omega, Below.refl _ _⟩
    case round =>
      obtain ⟨k, rfl, hk, H, hb⟩ := hrel
      by_cases hlt : k < n
      · obtain ⟨b1, off1, A1, m1, c1, B1, n1, f1, x, rfl, hx, d0, d1, d2, d3, d4, d5, hs1, _, ht1, _, _⟩ := (hl.below hb).at_ hlt
        obtain ⟨b2, off2, A2, m2, c2, B2, n2, f2, y, rfl, hy, e0, e1, e2, e3, e4, e5, hs2, _, ht2, _, _⟩ := (hr.below hb).at_ hlt
        have HX := Lib.hid hx
        have HY := Lib.hid hy
        clear hx hy
        have hi0 : (0 : Int) ≤ (k : Int) := by omega
        have hi1 : (k : Int) < (n : Int) := by omega
        go_wp2
        go_region_held3 (fun w' => w'.cell? ⟨b1, off1 + k * 6, none⟩ = some (.int .i64 x.fr) ∧ w'.cell? ⟨b1, off1 + k * 6 + 1, none⟩ = some (.int .i64 x.to_) ∧ w'.cell? ⟨b1, off1 + k * 6 + 2, none⟩ = some (.slice A1 m1 c1) ∧ w'.cell? ⟨b1, off1 + k * 6 + 3, none⟩ = some (.int .i64 x.at_) ∧ w'.cell? ⟨b1, off1 + k * 6 + 4, none⟩ = some (.int .i64 x.en) ∧ w'.cell? ⟨b1, off1 + k * 6 + 5, none⟩ = some (.slice B1 n1 f1)
            ∧ w'.cell? ⟨b2, off2 + k * 6, none⟩ = some (.int .i64 y.fr) ∧ w'.cell? ⟨b2, off2 + k * 6 + 1, none⟩ = some (.int .i64 y.to_) ∧ w'.cell? ⟨b2, off2 + k * 6 + 2, none⟩ = some (.slice A2 m2 c2) ∧ w'.cell? ⟨b2, off2 + k * 6 + 3, none⟩ = some (.int .i64 y.at_) ∧ w'.cell? ⟨b2, off2 + k * 6 + 4, none⟩ = some (.int .i64 y.en) ∧ w'.cell? ⟨b2, off2 + k * 6 + 5, none⟩ = some (.slice B2 n2 f2))
          (first | exact ⟨d0, d1, d2, d3, d4, d5, e0, e1, e2, e3, e4, e5⟩ | exact ⟨cell_keep q1 d0, cell_keep q1 d1, cell_keep q1 d2, cell_keep q1 d3, cell_keep q1 d4, cell_keep q1 d5, cell_keep q1 e0, cell_keep q1 e1, cell_keep q1 e2, cell_keep q1 e3, cell_keep q1 e4, cell_keep q1 e5⟩ | go_keep)
          (first | (go_at_call 33; refine (eqStep_any A1 B1 A2 B2 m1 c1 n1 f1 m2 c2 n2 f2 x y _ (hs1.below (Below.refl _ _).drew) (ht1.below (Below.refl _ _).drew) (hs2.below (Below.refl _ _).drew) (ht2.below (Below.refl _ _).drew)).mono ?_; rintro e w1 ⟨rfl, q1⟩) | fail)
        have hbq := hb.drew.next q1
        cases hq2 : eqP x y
        · have hf := Lib.hid (eqPS_at HX.out HY.out hq2)
          go_wp2
          go_ret
          exact ⟨ret_bool hf.out.symm, hbq⟩
        · have HST := Lib.hid hq2
          go_wp2
          go_roundw
          case rel => exact ⟨k + 1, by go_num, by omega, eqP_step H.out HX.out HY.out HST.out, hbq⟩
          case measure => simp [intOf]; omega
      · have hf := Lib.hid (eqPS_all (fun j s t h1 h2 => H.out j s t (by have := (List.getElem?_eq_some_iff.1 h1).1; have := HL.out; omega) h1 h2) (HL.out.trans HR.out.symm))
        go_wp2
        go_ret
        exact ⟨ret_bool hf.out.symm, hb⟩
  · have hq : ((n : Int) != (m : Int)) = true := by simp; omega
    have hf := Lib.hid (eqPS_len (l := l) (r := r) (by rw [HL.out, HR.out]; exact hnm))
    go_enter Tryd.func17, Tryd.ntmps17
    go_wp2
    go_ret
    exact ⟨ret_bool hf.out.symm, Below.refl _ _⟩

theorem sp_info : (Tryd.prog.info? 54).map (fun i => (i.zero, i.size, i.bytes)) = some (some (.agg #[.int .i64 0, .int .i64 0, .slice none 0 0, .int .i64 0, .int .i64 0, .slice none 0 0]), 6, 80) := by kernel_rfl
def blankSt (n : Nat) : Array Value := madeCells #[.int .i64 0, .int .i64 0, .slice none 0 0, .int .i64 0, .int .i64 0, .slice none 0 0] (n * 6)
theorem make_sps (n : Nat) (hn : n ≤ 1048576) (w : World) :
    (Instr.makeSlice 37 (.int .i64 (n : Int)) (.int .i64 (n : Int))).run Tryd.prog w = .ok (.slice (some ⟨w.heap.size, 0, none⟩) n n) (w.alloc (.cells (blankSt n) 54)) := by
  obtain ⟨i, h1, h2, h3, h4⟩ := info_parts sp_info
  have hr := run_make (P := Tryd.prog) w 37 54 i _ Tryd.underlying37 h1 h2 .i64 .i64 n n (by omega) (by omega) (by rw [h4]; omega) (by omega)
  rw [h3] at hr
  simpa [blankSt, Value.cells] using hr
def blankRow : List D := spRow blankP (.slice none 0 0) (.slice none 0 0)
theorem blankRow_len : blankRow.length = 6 := rfl
theorem blank_rows (n : Nat) : ((List.replicate n blankRow).flatten).map D.val = (blankSt n).toList := by
  apply List.ext_getElem?
  intro j
  have hw : ∀ r ∈ List.replicate n blankRow, r.length = 6 := fun r hr => by rw [List.eq_of_mem_replicate hr]; rfl
  by_cases hj : j < n * 6
  · have hdm := Nat.div_add_mod j 6
    have hj6 : j % 6 < 6 := Nat.mod_lt _ (by omega)
    have e : (List.replicate n blankRow)[j / 6]? = some blankRow := by rw [List.getElem?_replicate, if_pos (by omega)]
    have h1 := flat_get hw e hj6
    rw [show j / 6 * 6 + j % 6 = j by omega] at h1
    rw [List.getElem?_map, h1]
    rw [blankSt, madeCells, Array.toList_map, Array.toList_range, List.getElem?_map, List.getElem?_range hj]
    show Option.map D.val blankRow[j % 6]? = some ((#[.int .i64 0, .int .i64 0, .slice none 0 0, .int .i64 0, .int .i64 0, .slice none 0 0] : Array Value)[j % 6]!)
    generalize j % 6 = q at hj6
    match q, hj6 with
    | 0, _ => rfl
    | 1, _ => rfl
    | 2, _ => rfl
    | 3, _ => rfl
    | 4, _ => rfl
    | 5, _ => rfl
  · rw [List.getElem?_eq_none (by rw [List.length_map, flat_len hw, List.length_replicate]; omega), List.getElem?_eq_none (by simp [blankSt, madeCells]; omega)]
theorem blank_own (w : World) (base n : Nat) : D.ownL w base (List.replicate n blankRow).flatten ∧ D.blocksL (List.replicate n blankRow).flatten = [] := by
  induction n with
  | zero => exact ⟨trivial, rfl⟩
  | succ n ih =>
    rw [List.replicate_succ, List.flatten_cons, D.ownL_append, D.blocksL_append, ih.2]
    refine ⟨⟨⟨rfl, rfl, ⟨?_, trivial⟩, rfl, rfl, ⟨?_, trivial⟩, trivial⟩, ih.1⟩, rfl⟩
    · exact w.ownsRow_nil base _ _
    · exact w.ownsRow_nil base _ _
theorem OwnSt.made (w : World) (n : Nat) (hn : n ≤ 1048576) : OwnSt (w.alloc (.cells (blankSt n) 54)) w.heap.size (.slice (some ⟨w.heap.size, 0, none⟩) n n) (List.replicate n blankP) (List.replicate n blankRow) := by
  have hs : (blankSt n).size = n * 6 := by simp [blankSt, madeCells]
  have hw : ∀ r ∈ List.replicate n blankRow, r.length = 6 := fun r hr => by rw [List.eq_of_mem_replicate hr]; rfl
  have hb := blank_own (w.alloc (.cells (blankSt n) 54)) w.heap.size n
  refine ⟨by simp, ⟨⟨⟨?_, hb.1⟩, ?_⟩, hw⟩, fun k r x hr hx => ?_, fun x hx => ?_⟩
  · rw [blank_rows, List.length_replicate]
    exact ⟨by simp [hs], .inr ⟨w.heap.size, n, blankSt n, rfl, Nat.le_refl _, heap_alloc_new w _, Nat.le_refl _, by unfold maxLen; omega, hs, List.take_of_length_le (by simp [hs])⟩⟩
  · rw [D.blocks, hb.2]; simp [Value.ownBlock]
  · rw [List.eq_of_mem_replicate (List.mem_of_getElem? hr), List.eq_of_mem_replicate (List.mem_of_getElem? hx)]
    exact ⟨_, _, rfl⟩
  · rw [List.eq_of_mem_replicate hx]
    exact ⟨⟨by decide, by decide⟩, ⟨by decide, by decide⟩, ⟨by decide, by decide⟩, ⟨by decide, by decide⟩, fun s h => by simp [blankP] at h, fun s h => by simp [blankP] at h⟩

theorem heap_two {w : World} {o : Obj} {k : Nat} {c : Array Value} {t : TypeId} {j : Nat} {v : Value} (h : w.heap[k]? = some (.cells c t (0, 0))) (hj : c[j]? = some v) : w.cell? ⟨k, j, none⟩ = some v := by simp [World.cell?, h, hj]

end Go.Proofs.YtnimaadjmejmpaaDoor
