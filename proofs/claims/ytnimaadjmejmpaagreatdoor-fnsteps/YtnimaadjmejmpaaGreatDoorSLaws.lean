/-
  The laws' own small functions on steps: counted, copied, compared.
  The laws' own small functions on steps: compared, copied, marked.
  The laws' own small functions on steps: copied, marked.
  The laws' own small functions on lists of steps: copied, marked.
  The laws' own small functions on lists of steps: marked, held.
-/
import Derived.Test.YtnimaadjmejmpaaGreatDoorSMem
import Derived.Test.YtnimaadjmejmpaaGreatDoorSMath
set_option linter.unusedSimpArgs false
set_option linter.unusedVariables false
namespace Go.Proofs.YtnimaadjmejmpaaGreatDoor
open Go.RowKit Go.ChangeShapes Go.WideShapes M

theorem eqStep_any (A1 B1 A2 B2 : Option Addr) (m1 c1 n1 d1 m2 c2 n2 d2 : Nat) (x y : Sp) (w : World) (hx : Strs w A1 m1 x.old) (hx2 : Strs w B1 n1 x.new) (hy : Strs w A2 m2 y.old) (hy2 : Strs w B2 n2 y.new) :
    Calls Tryz.prog 66 #[.agg #[.int .i64 x.fr, .int .i64 x.to_, .slice A1 m1 c1, .int .i64 x.at_, .int .i64 x.en, .slice B1 n1 d1], .agg #[.int .i64 y.fr, .int .i64 y.to_, .slice A2 m2 c2, .int .i64 y.at_, .int .i64 y.en, .slice B2 n2 d2]] w fun e w' => e = .returned (.bool (eqP x y)) ∧ Below w.heap.size w w' := by
  obtain ⟨W, HW⟩ : ∃ W, Hid (W = (w.alloc (.cells #[.int .i64 x.fr, .int .i64 x.to_, .slice A1 m1 c1, .int .i64 x.at_, .int .i64 x.en, .slice B1 n1 d1] 69)).alloc (.cells #[.int .i64 y.fr, .int .i64 y.to_, .slice A2 m2 c2, .int .i64 y.at_, .int .i64 y.en, .slice B2 n2 d2] 69)) := ⟨_, rfl⟩
  have HB := Lib.hid (show Below w.heap.size w W by rw [HW.out]; exact (below_alloc w _).next (below_alloc _ _))
  have HC := Lib.hid (show W.cell? ⟨w.heap.size, 3, none⟩ = some (.int .i64 x.at_) ∧ W.cell? ⟨w.heap.size, 4, none⟩ = some (.int .i64 x.en) ∧ W.cell? ⟨w.heap.size, 5, none⟩ = some (.slice B1 n1 d1) ∧ W.cell? ⟨w.heap.size + 1, 3, none⟩ = some (.int .i64 y.at_) ∧ W.cell? ⟨w.heap.size + 1, 4, none⟩ = some (.int .i64 y.en) ∧ W.cell? ⟨w.heap.size + 1, 5, none⟩ = some (.slice B2 n2 d2) by
    have q0 : W.heap[w.heap.size]? = some (.cells #[.int .i64 x.fr, .int .i64 x.to_, .slice A1 m1 c1, .int .i64 x.at_, .int .i64 x.en, .slice B1 n1 d1] 69 (0, 0)) := by
      rw [HW.out, Below.heap_alloc _ _ _ (by simp)]; exact heap_at rfl
    have q1 : W.heap[w.heap.size + 1]? = some (.cells #[.int .i64 y.fr, .int .i64 y.to_, .slice A2 m2 c2, .int .i64 y.at_, .int .i64 y.en, .slice B2 n2 d2] 69 (0, 0)) := by
      rw [HW.out]; exact heap_at (by simp)
    simp [World.cell?, q0, q1])
  by_cases h1 : x.fr = y.fr
  case neg =>
    have q1 : (x.fr != y.fr) = true := by simp [h1]
    have hf := Lib.hid (show eqP x y = false by simp [eqP, h1])
    clear h1
    go_enter Tryz.func66, Tryz.ntmps66
    go_wp2
    go_ret
    exact ⟨ret_bool hf.out.symm, by rw [← HW.out]; exact HB.out⟩
  have q1 : (x.fr != y.fr) = false := by simp [h1]
  by_cases h2 : x.to_ = y.to_
  case neg =>
    have q2 : (x.to_ != y.to_) = true := by simp [h2]
    have hf := Lib.hid (show eqP x y = false by simp [eqP, h2])
    clear h1 h2
    go_enter Tryz.func66, Tryz.ntmps66
    go_wp2
    go_ret
    exact ⟨ret_bool hf.out.symm, by rw [← HW.out]; exact HB.out⟩
  have q2 : (x.to_ != y.to_) = false := by simp [h2]
  cases h3 : eqT x.old y.old
  case false =>
    have hf := Lib.hid (show eqP x y = false by simp [eqP, h3])
    have H3 := Lib.hid h3
    clear h1 h2 h3
    go_enter Tryz.func66, Tryz.ntmps66
    go_wp2_with fail
    rw [← HW.out]
    refine (eqStringS_any A1 A2 m1 m2 c1 c2 x.old y.old _ (hx.below HB.out) (hy.below HB.out)).mono ?_
    rintro e w1 ⟨rfl, dd1⟩
    have b1 := HB.out.next dd1.below
    have k0 := cell_keep dd1.below HC.out.1
    have k1 := cell_keep dd1.below HC.out.2.1
    have k3 := cell_keep dd1.below HC.out.2.2.2.1
    have k4 := cell_keep dd1.below HC.out.2.2.2.2.1
    rw [H3.out]
    go_wp2
    go_ret
    exact ⟨ret_bool hf.out.symm, b1⟩
  have H3 := Lib.hid h3
  by_cases h4 : x.at_ = y.at_
  case neg =>
    have q4 : (x.at_ != y.at_) = true := by simp [h4]
    have hf := Lib.hid (show eqP x y = false by simp [eqP, h4])
    clear h1 h2 h3 h4
    go_enter Tryz.func66, Tryz.ntmps66
    go_wp2_with fail
    rw [← HW.out]
    refine (eqStringS_any A1 A2 m1 m2 c1 c2 x.old y.old _ (hx.below HB.out) (hy.below HB.out)).mono ?_
    rintro e w1 ⟨rfl, dd1⟩
    have b1 := HB.out.next dd1.below
    have k0 := cell_keep dd1.below HC.out.1
    have k1 := cell_keep dd1.below HC.out.2.1
    have k3 := cell_keep dd1.below HC.out.2.2.2.1
    have k4 := cell_keep dd1.below HC.out.2.2.2.2.1
    rw [H3.out]
    go_wp2
    go_ret
    exact ⟨ret_bool hf.out.symm, b1⟩
  have q4 : (x.at_ != y.at_) = false := by simp [h4]
  by_cases h5 : x.en = y.en
  case neg =>
    have q5 : (x.en != y.en) = true := by simp [h5]
    have hf := Lib.hid (show eqP x y = false by simp [eqP, h5])
    clear h1 h2 h3 h4 h5
    go_enter Tryz.func66, Tryz.ntmps66
    go_wp2_with fail
    rw [← HW.out]
    refine (eqStringS_any A1 A2 m1 m2 c1 c2 x.old y.old _ (hx.below HB.out) (hy.below HB.out)).mono ?_
    rintro e w1 ⟨rfl, dd1⟩
    have b1 := HB.out.next dd1.below
    have k0 := cell_keep dd1.below HC.out.1
    have k1 := cell_keep dd1.below HC.out.2.1
    have k3 := cell_keep dd1.below HC.out.2.2.2.1
    have k4 := cell_keep dd1.below HC.out.2.2.2.2.1
    rw [H3.out]
    go_wp2
    go_ret
    exact ⟨ret_bool hf.out.symm, b1⟩
  have q5 : (x.en != y.en) = false := by simp [h5]
  have hf := Lib.hid (show eqP x y = eqT x.new y.new by simp [eqP, h1, h2, h3, h4, h5])
  clear h1 h2 h3 h4 h5
  go_enter Tryz.func66, Tryz.ntmps66
  go_wp2_with fail
  rw [← HW.out]
  refine (eqStringS_any A1 A2 m1 m2 c1 c2 x.old y.old _ (hx.below HB.out) (hy.below HB.out)).mono ?_
  rintro e w1 ⟨rfl, dd1⟩
  have b1 := HB.out.next dd1.below
  have k0 := cell_keep dd1.below HC.out.1
  have k1 := cell_keep dd1.below HC.out.2.1
  have k2 := cell_keep dd1.below HC.out.2.2.1
  have k3 := cell_keep dd1.below HC.out.2.2.2.1
  have k4 := cell_keep dd1.below HC.out.2.2.2.2.1
  have k5 := cell_keep dd1.below HC.out.2.2.2.2.2
  rw [H3.out]
  go_wp2_with fail
  refine (eqStringS_any B1 B2 n1 n2 _ _ x.new y.new _ (hx2.below b1) (hy2.below b1)).mono ?_
  rintro e w2 ⟨rfl, dd2⟩
  have b2 := b1.next dd2.below
  cases hq : eqT x.new y.new
  all_goals
    go_wp2
    go_ret
    exact ⟨ret_bool (by rw [hf.out, hq]), b2⟩

end Go.Proofs.YtnimaadjmejmpaaGreatDoor

namespace Go.Proofs.YtnimaadjmejmpaaGreatDoor
open Go.RowKit Go.ChangeShapes Go.WideShapes M

set_option maxHeartbeats 1000000 in
theorem eqStepS_any (a b : Option Addr) (n m c d : Nat) (l r : List Sp) (w : World) (hl : Sps w a n l) (hr : Sps w b m r) :
    Calls Tryz.prog 29 #[.slice a n c, .slice b m d] w fun e w' => e = .returned (.bool (eqPS l r)) ∧ Below w.heap.size w w' := by
  have HL := Lib.hid hl.len
  have HR := Lib.hid hr.len
  have hlim := hl.lim
  unfold maxLen at hlim
  by_cases hnm : n = m
  · subst hnm
    have hq : ((n : Int) != (n : Int)) = false := by simp
    go_enter Tryz.func29, Tryz.ntmps29
    go_wp2
    go_loopw [5] (fun i w' => ∃ k : Nat, i = .int .i64 k ∧ k ≤ n ∧ Hid (∀ j s t, j < k → l[j]? = some s → r[j]? = some t → eqP s t = true) ∧ Below w.heap.size w w') (fun i _ => n - (intOf i).toNat)
    case atStart => exact ⟨0, rfl, by omega, fun j s t h => by omega, Below.refl _ _⟩
    case round =>
      obtain ⟨k, rfl, hk, H, hb⟩ := hrel
      by_cases hlt : k < n
      · obtain ⟨b1, off1, A1, m1, c1, B1, n1, f1, x, rfl, hx, d0, d1, d2, d3, d4, d5, hs1, _, ht1, _, _⟩ := (hl.below hb).at_ hlt
        obtain ⟨b2, off2, A2, m2, c2, B2, n2, f2, y, rfl, hy, e0, e1, e2, e3, e4, e5, hs2, _, ht2, _, _⟩ := (hr.below hb).at_ hlt
        have HX := Lib.hid hx
        have HY := Lib.hid hy
        clear hx hy
        have hi0 : (0 : Int) ≤ (k : Int) := by omega
        have hi1 : (k : Int) < (n : Int) := by omega
        go_wp2
        go_region_held3 (fun w' => w'.cell? ⟨b1, off1 + k * 6, none⟩ = some (.int .i64 x.fr) ∧ w'.cell? ⟨b1, off1 + k * 6 + 1, none⟩ = some (.int .i64 x.to_) ∧ w'.cell? ⟨b1, off1 + k * 6 + 2, none⟩ = some (.slice A1 m1 c1) ∧ w'.cell? ⟨b1, off1 + k * 6 + 3, none⟩ = some (.int .i64 x.at_) ∧ w'.cell? ⟨b1, off1 + k * 6 + 4, none⟩ = some (.int .i64 x.en) ∧ w'.cell? ⟨b1, off1 + k * 6 + 5, none⟩ = some (.slice B1 n1 f1)
            ∧ w'.cell? ⟨b2, off2 + k * 6, none⟩ = some (.int .i64 y.fr) ∧ w'.cell? ⟨b2, off2 + k * 6 + 1, none⟩ = some (.int .i64 y.to_) ∧ w'.cell? ⟨b2, off2 + k * 6 + 2, none⟩ = some (.slice A2 m2 c2) ∧ w'.cell? ⟨b2, off2 + k * 6 + 3, none⟩ = some (.int .i64 y.at_) ∧ w'.cell? ⟨b2, off2 + k * 6 + 4, none⟩ = some (.int .i64 y.en) ∧ w'.cell? ⟨b2, off2 + k * 6 + 5, none⟩ = some (.slice B2 n2 f2))
          (first | exact ⟨d0, d1, d2, d3, d4, d5, e0, e1, e2, e3, e4, e5⟩ | exact ⟨cell_keep q1 d0, cell_keep q1 d1, cell_keep q1 d2, cell_keep q1 d3, cell_keep q1 d4, cell_keep q1 d5, cell_keep q1 e0, cell_keep q1 e1, cell_keep q1 e2, cell_keep q1 e3, cell_keep q1 e4, cell_keep q1 e5⟩ | go_keep)
          (first | (go_at_call 66; refine (eqStep_any A1 B1 A2 B2 m1 c1 n1 f1 m2 c2 n2 f2 x y _ (hs1.below (Below.refl _ _).drew) (ht1.below (Below.refl _ _).drew) (hs2.below (Below.refl _ _).drew) (ht2.below (Below.refl _ _).drew)).mono ?_; rintro e w1 ⟨rfl, q1⟩) | fail)
        have hbq := hb.drew.next q1
        cases hq2 : eqP x y
        · have hf := Lib.hid (eqPS_at HX.out HY.out hq2)
          go_wp2
          go_ret
          exact ⟨ret_bool hf.out.symm, hbq⟩
        · have HST := Lib.hid hq2
          go_wp2
          go_roundw
          case rel => exact ⟨k + 1, by go_num, by omega, eqP_step H.out HX.out HY.out HST.out, hbq⟩
          case measure => simp [intOf]; omega
      · have hf := Lib.hid (eqPS_all (fun j s t h1 h2 => H.out j s t (by have := (List.getElem?_eq_some_iff.1 h1).1; have := HL.out; omega) h1 h2) (HL.out.trans HR.out.symm))
        go_wp2
        go_ret
        exact ⟨ret_bool hf.out.symm, hb⟩
  · have hq : ((n : Int) != (m : Int)) = true := by simp; omega
    have hf := Lib.hid (eqPS_len (l := l) (r := r) (by rw [HL.out, HR.out]; exact hnm))
    go_enter Tryz.func29, Tryz.ntmps29
    go_wp2
    go_ret
    exact ⟨ret_bool hf.out.symm, Below.refl _ _⟩

theorem sp_info : (Tryz.prog.info? 69).map (fun i => (i.zero, i.size, i.bytes)) = some (some (.agg #[.int .i64 0, .int .i64 0, .slice none 0 0, .int .i64 0, .int .i64 0, .slice none 0 0]), 6, 80) := by kernel_rfl
def blankSt (n : Nat) : Array Value := madeCells #[.int .i64 0, .int .i64 0, .slice none 0 0, .int .i64 0, .int .i64 0, .slice none 0 0] (n * 6)
theorem make_sps (n : Nat) (hn : n ≤ 1048576) (w : World) :
    (Instr.makeSlice 24 (.int .i64 (n : Int)) (.int .i64 (n : Int))).run Tryz.prog w = .ok (.slice (some ⟨w.heap.size, 0, none⟩) n n) (w.alloc (.cells (blankSt n) 69)) := by
  obtain ⟨i, h1, h2, h3, h4⟩ := info_parts sp_info
  have hr := run_make (P := Tryz.prog) w 24 69 i _ Tryz.underlying24 h1 h2 .i64 .i64 n n (by omega) (by omega) (by rw [h4]; omega) (by omega)
  rw [h3] at hr
  simpa [blankSt, Value.cells] using hr
def blankRow : List D := spRow blankP (.slice none 0 0) (.slice none 0 0)
theorem blankRow_len : blankRow.length = 6 := rfl
theorem blank_rows (n : Nat) : ((List.replicate n blankRow).flatten).map D.val = (blankSt n).toList := by
  apply List.ext_getElem?
  intro j
  have hw : ∀ r ∈ List.replicate n blankRow, r.length = 6 := fun r hr => by rw [List.eq_of_mem_replicate hr]; rfl
  by_cases hj : j < n * 6
  · have hdm := Nat.div_add_mod j 6
    have hj6 : j % 6 < 6 := Nat.mod_lt _ (by omega)
    have e : (List.replicate n blankRow)[j / 6]? = some blankRow := by rw [List.getElem?_replicate, if_pos (by omega)]
    have h1 := flat_get hw e hj6
    rw [show j / 6 * 6 + j % 6 = j by omega] at h1
    rw [List.getElem?_map, h1]
    rw [blankSt, madeCells, Array.toList_map, Array.toList_range, List.getElem?_map, List.getElem?_range hj]
    show Option.map D.val blankRow[j % 6]? = some ((#[.int .i64 0, .int .i64 0, .slice none 0 0, .int .i64 0, .int .i64 0, .slice none 0 0] : Array Value)[j % 6]!)
    generalize j % 6 = q at hj6
    match q, hj6 with
    | 0, _ => rfl
    | 1, _ => rfl
    | 2, _ => rfl
    | 3, _ => rfl
    | 4, _ => rfl
    | 5, _ => rfl
  · rw [List.getElem?_eq_none (by rw [List.length_map, flat_len hw, List.length_replicate]; omega), List.getElem?_eq_none (by simp [blankSt, madeCells]; omega)]
theorem blank_own (w : World) (base n : Nat) : D.ownL w base (List.replicate n blankRow).flatten ∧ D.blocksL (List.replicate n blankRow).flatten = [] := by
  induction n with
  | zero => exact ⟨trivial, rfl⟩
  | succ n ih =>
    rw [List.replicate_succ, List.flatten_cons, D.ownL_append, D.blocksL_append, ih.2]
    refine ⟨⟨⟨rfl, rfl, ⟨?_, trivial⟩, rfl, rfl, ⟨?_, trivial⟩, trivial⟩, ih.1⟩, rfl⟩
    · exact w.ownsRow_nil base _ _
    · exact w.ownsRow_nil base _ _
theorem OwnSt.made (w : World) (n : Nat) (hn : n ≤ 1048576) : OwnSt (w.alloc (.cells (blankSt n) 69)) w.heap.size (.slice (some ⟨w.heap.size, 0, none⟩) n n) (List.replicate n blankP) (List.replicate n blankRow) := by
  have hs : (blankSt n).size = n * 6 := by simp [blankSt, madeCells]
  have hw : ∀ r ∈ List.replicate n blankRow, r.length = 6 := fun r hr => by rw [List.eq_of_mem_replicate hr]; rfl
  have hb := blank_own (w.alloc (.cells (blankSt n) 69)) w.heap.size n
  refine ⟨by simp, ⟨⟨⟨?_, hb.1⟩, ?_⟩, hw⟩, fun k r x hr hx => ?_, fun x hx => ?_⟩
  · rw [blank_rows, List.length_replicate]
    exact ⟨by simp [hs], .inr ⟨w.heap.size, n, blankSt n, rfl, Nat.le_refl _, heap_alloc_new w _, Nat.le_refl _, by unfold maxLen; omega, hs, List.take_of_length_le (by simp [hs])⟩⟩
  · rw [D.blocks, hb.2]; simp [Value.ownBlock]
  · rw [List.eq_of_mem_replicate (List.mem_of_getElem? hr), List.eq_of_mem_replicate (List.mem_of_getElem? hx)]
    exact ⟨_, _, rfl⟩
  · rw [List.eq_of_mem_replicate hx]
    exact ⟨⟨by decide, by decide⟩, ⟨by decide, by decide⟩, ⟨by decide, by decide⟩, ⟨by decide, by decide⟩, fun s h => by simp [blankP] at h, fun s h => by simp [blankP] at h⟩

theorem heap_two {w : World} {o : Obj} {k : Nat} {c : Array Value} {t : TypeId} {j : Nat} {v : Value} (h : w.heap[k]? = some (.cells c t (0, 0))) (hj : c[j]? = some v) : w.cell? ⟨k, j, none⟩ = some v := by simp [World.cell?, h, hj]

end Go.Proofs.YtnimaadjmejmpaaGreatDoor

namespace Go.Proofs.YtnimaadjmejmpaaGreatDoor
open Go.RowKit Go.ChangeShapes Go.WideShapes M

theorem heap_set_other {w : World} {a : Addr} {u : Value} {k : Nat} {o : Obj} (h : w.heap[k]? = some o) (hne : a.block ≠ k) : (w.setCell a u).heap[k]? = some o := by rw [Below.heap_setCell _ _ _ _ (fun e => hne e.symm)]; exact h
theorem heap_set_same {w : World} {k j : Nat} {c : Array Value} {t : TypeId} {u : Value} (h : w.heap[k]? = some (.cells c t (0, 0))) : (w.setCell ⟨k, j, none⟩ u).heap[k]? = some (.cells (c.setIfInBounds j u) t (0, 0)) := by
  simp [World.setCell, Array.getElem?_modify, h]

end Go.Proofs.YtnimaadjmejmpaaGreatDoor

namespace Go.Proofs.YtnimaadjmejmpaaGreatDoor
open Go.RowKit Go.ChangeShapes Go.WideShapes M

section
variable {w w' : World} {base g n cap k : Nat} {p : List Sp} {rows : List (List D)} {x : Sp} {u u2 : Value}
theorem OwnSt.reset (h : OwnSt w base (.slice (some ⟨g, 0, none⟩) n cap) p rows) (hx : p[k]? = some x) {r' : List D} (ho : OwnR w' base (.slice (some ⟨g, 0, none⟩) n cap) 69 6 (rows.set k r')) (y : Sp) (hr : ∃ u u2, r' = spRow y u u2) (hy : SpOk y) :
    OwnSt w' base (.slice (some ⟨g, 0, none⟩) n cap) (p.set k y) (rows.set k r') := by
  refine ⟨by simp [h.len], ho, fun j q z hq hz => ?_, fun z hz => ?_⟩
  · rcases set_get hq with ⟨rfl, rfl⟩ | ⟨hne, hq⟩
    · rcases set_get hz with ⟨_, rfl⟩ | ⟨hne, _⟩
      · exact hr
      · exact absurd rfl hne
    · rcases set_get hz with ⟨e, _⟩ | ⟨_, hz⟩
      · exact absurd e hne
      · exact h.row j q z hq hz
  · rcases List.mem_or_eq_of_mem_set hz with h5 | h5
    · exact h.ok z h5
    · rw [h5]; exact hy
/-- One number of a step is written. -/
theorem OwnSt.setFr (h : OwnSt w base (.slice (some ⟨g, 0, none⟩) n cap) p rows) (hx : p[k]? = some x) (hr : rows[k]? = some (spRow x u u2)) (i : Int) (hi : i64ok i) :
    OwnSt (w.setCell ⟨g, k * 6, none⟩ (.int .i64 i)) base (.slice (some ⟨g, 0, none⟩) n cap) (p.set k { x with fr := i }) (rows.set k (spRow { x with fr := i } u u2)) := by
  have hok := h.ok x (List.mem_of_getElem? hx)
  exact h.reset hx (h.own.set hr (j := 0) rfl (u := .int .i64 i) rfl) _ ⟨u, u2, rfl⟩ ⟨hi, hok.to_, hok.at_, hok.en, hok.old, hok.new⟩
theorem OwnSt.setTo (h : OwnSt w base (.slice (some ⟨g, 0, none⟩) n cap) p rows) (hx : p[k]? = some x) (hr : rows[k]? = some (spRow x u u2)) (i : Int) (hi : i64ok i) :
    OwnSt (w.setCell ⟨g, k * 6 + 1, none⟩ (.int .i64 i)) base (.slice (some ⟨g, 0, none⟩) n cap) (p.set k { x with to_ := i }) (rows.set k (spRow { x with to_ := i } u u2)) := by
  have hok := h.ok x (List.mem_of_getElem? hx)
  exact h.reset hx (h.own.set hr (j := 1) rfl (u := .int .i64 i) rfl) _ ⟨u, u2, rfl⟩ ⟨hok.fr, hi, hok.at_, hok.en, hok.old, hok.new⟩
theorem OwnSt.setAt (h : OwnSt w base (.slice (some ⟨g, 0, none⟩) n cap) p rows) (hx : p[k]? = some x) (hr : rows[k]? = some (spRow x u u2)) (i : Int) (hi : i64ok i) :
    OwnSt (w.setCell ⟨g, k * 6 + 3, none⟩ (.int .i64 i)) base (.slice (some ⟨g, 0, none⟩) n cap) (p.set k { x with at_ := i }) (rows.set k (spRow { x with at_ := i } u u2)) := by
  have hok := h.ok x (List.mem_of_getElem? hx)
  exact h.reset hx (h.own.set hr (j := 3) rfl (u := .int .i64 i) rfl) _ ⟨u, u2, rfl⟩ ⟨hok.fr, hok.to_, hi, hok.en, hok.old, hok.new⟩
theorem OwnSt.setEn (h : OwnSt w base (.slice (some ⟨g, 0, none⟩) n cap) p rows) (hx : p[k]? = some x) (hr : rows[k]? = some (spRow x u u2)) (i : Int) (hi : i64ok i) :
    OwnSt (w.setCell ⟨g, k * 6 + 4, none⟩ (.int .i64 i)) base (.slice (some ⟨g, 0, none⟩) n cap) (p.set k { x with en := i }) (rows.set k (spRow { x with en := i } u u2)) := by
  have hok := h.ok x (List.mem_of_getElem? hx)
  exact h.reset hx (h.own.set hr (j := 4) rfl (u := .int .i64 i) rfl) _ ⟨u, u2, rfl⟩ ⟨hok.fr, hok.to_, hok.at_, hi, hok.old, hok.new⟩
/-- The lines of Old are written, in the block that they have; likewise those of New. -/
theorem OwnSt.renewOld (h : OwnSt w base (.slice (some ⟨g, 0, none⟩) n cap) p rows) (hx : p[k]? = some x) (hr : rows[k]? = some (spRow x u u2)) (hw : w.grownBy w' u.ownBlock) {r : List ByteArray} (ho : OwnV w' base u r) :
    OwnSt w' base (.slice (some ⟨g, 0, none⟩) n cap) (p.set k { x with old := r }) (rows.set k (spRow { x with old := r } u u2)) := by
  have hok := h.ok x (List.mem_of_getElem? hx)
  refine h.reset hx (h.own.renew hr (j := 2) (d := textsD u x.old) (d' := textsD u r) rfl (Wrote.of_grown hw (fun i e => by rw [textsD_blocks]; simp [e])) ho.datum.own (by rw [textsD_blocks, textsD_blocks]) rfl) _ ⟨u, u2, rfl⟩ ⟨hok.fr, hok.to_, hok.at_, hok.en, ho.small, hok.new⟩
theorem OwnSt.renewNew (h : OwnSt w base (.slice (some ⟨g, 0, none⟩) n cap) p rows) (hx : p[k]? = some x) (hr : rows[k]? = some (spRow x u u2)) (hw : w.grownBy w' u2.ownBlock) {r : List ByteArray} (ho : OwnV w' base u2 r) :
    OwnSt w' base (.slice (some ⟨g, 0, none⟩) n cap) (p.set k { x with new := r }) (rows.set k (spRow { x with new := r } u u2)) := by
  have hok := h.ok x (List.mem_of_getElem? hx)
  refine h.reset hx (h.own.renew hr (j := 5) (d := textsD u2 x.new) (d' := textsD u2 r) rfl (Wrote.of_grown hw (fun i e => by rw [textsD_blocks]; simp [e])) ho.datum.own (by rw [textsD_blocks, textsD_blocks]) rfl) _ ⟨u, u2, rfl⟩ ⟨hok.fr, hok.to_, hok.at_, hok.en, hok.old, ho.small⟩
/-- The blocks of both lists of a step are its slice's. -/
theorem OwnSt.blkOld (h : OwnSt w base (.slice (some ⟨g, 0, none⟩) n cap) p rows) (hr : rows[k]? = some (spRow x u u2)) {i : Nat} (e : u.ownBlock = some i) : BlkR (.slice (some ⟨g, 0, none⟩) n cap) rows i :=
  BlkR.of_row hr h.own.wide (j := 2) rfl (by rw [textsD_blocks]; simp [e])
theorem OwnSt.blkNew (h : OwnSt w base (.slice (some ⟨g, 0, none⟩) n cap) p rows) (hr : rows[k]? = some (spRow x u u2)) {i : Nat} (e : u2.ownBlock = some i) : BlkR (.slice (some ⟨g, 0, none⟩) n cap) rows i :=
  BlkR.of_row hr h.own.wide (j := 5) rfl (by rw [textsD_blocks]; simp [e])
theorem OwnSt.newAt (h : OwnSt w base (.slice (some ⟨g, 0, none⟩) n cap) p rows) (hx : p[k]? = some x) (hr : rows[k]? = some (spRow x u u2)) : OwnV w base u x.old ∧ OwnV w base u2 x.new := by
  have hok := h.ok x (List.mem_of_getElem? hx)
  exact ⟨D.own_texts (h.own.datum hr (j := 2) rfl) hok.old, D.own_texts (h.own.datum hr (j := 5) rfl) hok.new⟩
end

/-- The rows of steps that are marked have the blocks that they had. -/
theorem blk_same {rows rows' : List (List D)} {v : Value} (h : D.blocksL rows'.flatten = D.blocksL rows.flatten) (g : Nat) : BlkR v rows' g ↔ BlkR v rows g := by unfold BlkR; rw [h]
theorem blocks_row {rows : List (List D)} {k : Nat} {x y : Sp} {u u2 : Value} (hw : ∀ r ∈ rows, r.length = 6) (hr : rows[k]? = some (spRow x u u2)) : D.blocksL (rows.set k (spRow y u u2)).flatten = D.blocksL rows.flatten := by
  induction rows generalizing k with
  | nil => simp at hr
  | cons r rows ih =>
    cases k with
    | zero =>
      simp at hr
      subst hr
      rw [List.set_cons_zero, List.flatten_cons, List.flatten_cons, D.blocksL_append, D.blocksL_append]
      congr 1
      simp only [spRow, D.blocksL, textsD_blocks, D.blocks]
    | succ k =>
      rw [List.set_cons_succ, List.flatten_cons, List.flatten_cons, D.blocksL_append, D.blocksL_append, ih (fun q hq => hw q (by simp [hq])) (by simpa using hr)]

end Go.Proofs.YtnimaadjmejmpaaGreatDoor

namespace Go.Proofs.YtnimaadjmejmpaaGreatDoor
open Go.RowKit Go.ChangeShapes Go.WideShapes M

theorem sides_small {l : List Sp} (h : l.length + totalP l ≤ 1048576) : ∀ x ∈ l, x.old.length ≤ 1048576 ∧ x.new.length ≤ 1048576 := by
  intro x hx
  have := totalP_mem hx
  unfold bulk at this
  omega

set_option maxHeartbeats 4000000 in
set_option maxRecDepth 100000 in
theorem markStepS_any (A : Option Addr) (n cap base k0 : Nat) (l : List Sp) (vs : List (List D)) (w : World) (ho : OwnSt w base (.slice A n cap) l vs) (hn : l.length + totalP l ≤ 1048576) (hk : k0 + 4 * l.length + totalP l ≤ 16777216) :
    Calls Tryz.prog 30 #[.slice A n cap, .int .i64 k0] w fun e w' => e = .returned (.int .i64 ((endS k0 l : Nat) : Int)) ∧ (∃ vs', OwnSt w' base (.slice A n cap) (marksSt k0 l) vs') ∧ Wrote (BlkR (.slice A n cap) vs) w w' := by
  have HL := Lib.hid ho.sps.len
  have HE := Lib.hid (fun i => endS_take_le l i k0)
  have HN := Lib.hid hn
  have HK := Lib.hid hk
  have hn1 : n ≤ 1048576 := by rw [← HL.out]; omega
  clear hn hk
  go_enter Tryz.func30, Tryz.ntmps30
  go_wp2
  go_loopw [1, 5] (fun q i w' => ∃ j K : Nat, i = .int .i64 j ∧ q = .int .i64 (K : Int) ∧ Hid (K = endS k0 (l.take j)) ∧ j ≤ n ∧ (∃ vs', OwnSt w' base (.slice A n cap) (mkToP l k0 j) vs' ∧ Hid (D.blocksL vs'.flatten = D.blocksL vs.flatten)) ∧ Wrote (BlkR (.slice A n cap) vs) w w') (fun _ i _ => n - (intOf i).toNat)
  case atStart => exact ⟨0, k0, rfl, rfl, rfl, by omega, ⟨vs, by rw [mkToP_zero]; exact ho, rfl⟩, Wrote.refl _ _⟩
  case round =>
    obtain ⟨j, K, rfl, rfl, HKj, hj, ⟨vs', h1, HV⟩, h2⟩ := hrel
    by_cases hlt : j < n
    · obtain ⟨g, x, a1, m1, c1, a2, m2, c2, rfl, hb0, hg0, hx, hr, d0, d1, d2, d3, d4, d5, o1, hmc1, o2, hmc2, hok, hfz⟩ := h1.at_ hlt
      have hlj : l[j]? = some x := by
        obtain ⟨y, hy⟩ : ∃ y, l[j]? = some y := ⟨_, List.getElem?_eq_getElem (show j < l.length by rw [HL.out]; exact hlt)⟩
        rw [mkToP_get k0 hy] at hx
        rw [hy, hx]
      have hl1 : x.old.length = m1 := o1.strs.len
      have hl2 : x.new.length = m2 := o2.strs.len
      have hKle : K ≤ 16777216 := by have := HE.out j; have := HK.out; have := HKj.out; omega
      have hnx : nextSp K x = endS k0 (l.take (j + 1)) := by rw [take_snoc hlj, endS_snoc, ← HKj.out]
      have hKm : K + 2 + m1 + 2 + m2 ≤ 16777216 := by
        have h3 := HE.out (j + 1)
        rw [← hnx] at h3
        unfold nextSp at h3
        have := HK.out
        omega
      have hm1 : m1 ≤ 1048576 ∧ m2 ≤ 1048576 := by have := totalP_mem (List.mem_of_getElem? hlj); have := HN.out; unfold bulk at *; omega
      obtain ⟨hm1, hm2⟩ := hm1
      have hw1 := h1.own.wide
      have lx : ∀ y : Sp, ((mkToP l k0 j).set j y)[j]? = some y := fun y => set_eq (by rw [mkToP_len, HL.out]; exact hlt)
      have hjv : j < vs'.length := (List.getElem?_eq_some_iff.1 hr).1
      have lr : ∀ y : List D, (vs'.set j y)[j]? = some y := fun y => set_eq hjv
      have s1 := h1.setFr hx hr (K : Int) (nat_ok (by omega))
      have s2 := s1.setTo (lx _) (lr _) ((K : Int) + 1) ⟨by omega, by omega⟩
      rw [List.set_set, List.set_set] at s2
      have hap1 : ∀ g', (Value.slice a1 m1 c1).ownBlock = some g' → g' ≠ g := fun g' e e2 => h1.own.self_apart hr (j := 2) (d := textsD (.slice a1 m1 c1) x.old) rfl (by rw [textsD_blocks, e, e2]; simp)
      have hap2 : ∀ g', (Value.slice a2 m2 c2).ownBlock = some g' → g' ≠ g := fun g' e e2 => h1.own.self_apart hr (j := 5) (d := textsD (.slice a2 m2 c2) x.new) rfl (by rw [textsD_blocks, e, e2]; simp)
      have HJ := Lib.hid hlj
      have HR := Lib.hid hr
      have HXX := Lib.hid hx
      have HLX := Lib.hid lx
      have HLR := Lib.hid lr
      have HAP1 := Lib.hid hap1
      have HAP2 := Lib.hid hap2
      have HNX := Lib.hid hnx
      have HW1 := Lib.hid hw1
      have HH1 := Lib.hid h1
      have HL1 := Lib.hid hl1
      have HL2 := Lib.hid hl2
      have HS2 := Lib.hid s2
      have O12 := Lib.hid (s2.newAt (lx _) (lr _)).1
      clear hlj hr hx lx lr hap1 hap2 hnx hw1 h1 s1 s2 hl1 hl2 o1 o2 hmc1 hmc2 hok hjv
      go_wp2_with fail
      rw [show ((K : Int) + 1 + 1) = ((K + 2 : Nat) : Int) from by omega]
      refine (markStringS_any a1 m1 c1 base (K + 2) x.old _ O12.out hm1 (by omega)).mono ?_
      rintro e w1 ⟨rfl, p1, g1⟩
      have s3 := HS2.out.renewOld (HLX.out _) (HLR.out _) g1 p1
      rw [List.set_set, List.set_set] at s3
      dsimp only at s3
      obtain ⟨K2, HK2⟩ : ∃ K2 : Nat, Hid (K2 = K + 2 + m1) := ⟨_, rfl⟩
      have hK2 : K2 + 2 + m2 ≤ 16777216 := by have := HK2.out; omega
      have s4 := s3.setAt (HLX.out _) (HLR.out _) (K2 : Int) (nat_ok (by omega))
      rw [List.set_set, List.set_set] at s4
      have s5 := s4.setEn (HLX.out _) (HLR.out _) ((K2 : Int) + 1) ⟨by omega, by omega⟩
      rw [List.set_set, List.set_set] at s5
      have HS5 := Lib.hid s5
      have O22 := Lib.hid (s5.newAt (HLX.out _) (HLR.out _)).2
      have q3 : w1.cell? ⟨g, j * 6 + 3, none⟩ = some (.int .i64 x.at_) := s3.own.cell (HLR.out _) (j := 3) rfl
      have q4 : w1.cell? ⟨g, j * 6 + 4, none⟩ = some (.int .i64 x.en) := s3.own.cell (HLR.out _) (j := 4) rfl
      have q5 : w1.cell? ⟨g, j * 6 + 5, none⟩ = some (.slice a2 m2 c2) := s3.own.cell (HLR.out _) (j := 5) rfl
      have fz1 : ∀ i, w1.frozen? ⟨g, i, none⟩ = false := s3.own.free
      have wr1 := Lib.hid (show Wrote (BlkR (.slice (some ⟨g, 0, none⟩) n cap) vs) w w1 from
        ((h2.trans (Wrote.set (fun i => i = g) wr _ _ rfl) (fun i _ e => by rw [e]; exact BlkR.of_self)).trans (Wrote.set (fun i => i = g) _ _ _ rfl) (fun i _ e => by rw [e]; exact BlkR.of_self)).trans (Wrote.of_grown (S := fun i => (Value.slice a1 m1 c1).ownBlock = some i) g1 (fun _ e => e)) (fun i _ e => (blk_same HV.out i).1 (HH1.out.blkOld HR.out e)))
      clear s3 s4 s5 g1 p1 h2 d0 d1 d2 d3 d4 d5 hfz
      rw [← HK2.out]
      go_wp2_with fail
      rw [show ((K2 : Int) + 1 + 1) = ((K2 + 2 : Nat) : Int) from by omega]
      refine (markStringS_any a2 m2 c2 base (K2 + 2) x.new _ O22.out hm2 (by omega)).mono ?_
      rintro e w2 ⟨rfl, p2, g2⟩
      have s6 := HS5.out.renewNew (HLX.out _) (HLR.out _) g2 p2
      rw [List.set_set, List.set_set] at s6
      have s7 : OwnSt w2 base (.slice (some ⟨g, 0, none⟩) n cap) (mkToP l k0 (j + 1)) (vs'.set j (spRow (markSp K x) (.slice a1 m1 c1) (.slice a2 m2 c2))) := by
        have e : (⟨(K : Int), (K : Int) + 1, marks (K + 2) m1, (K2 : Int), (K2 : Int) + 1, marks (K2 + 2) m2⟩ : Sp) = markSp K x := by
          unfold markSp; rw [HL1.out, HL2.out, HK2.out]
        rw [← mkToP_set k0 HJ.out, ← HKj.out, ← e]
        exact s6
      have hwr : Wrote (BlkR (.slice (some ⟨g, 0, none⟩) n cap) vs) w w2 :=
        ((wr1.out.trans (Wrote.set (fun i => i = g) w1 _ _ rfl) (fun i _ e => by rw [e]; exact BlkR.of_self)).trans (Wrote.set (fun i => i = g) _ _ _ rfl) (fun i _ e => by rw [e]; exact BlkR.of_self)).trans (Wrote.of_grown (S := fun i => (Value.slice a2 m2 c2).ownBlock = some i) g2 (fun _ e => e)) (fun i _ e => (blk_same HV.out i).1 (HH1.out.blkNew HR.out e))
      have HBL := Lib.hid ((blocks_row (y := markSp K x) HW1.out HR.out).trans HV.out)
      have HE2 := Lib.hid (show K2 + 2 + m2 = endS k0 (l.take (j + 1)) by rw [← HNX.out]; unfold nextSp; rw [HL1.out, HL2.out, HK2.out])
      clear s6 q3 q4 q5 fz1 g2 p2
      go_wp2
      go_roundw
      case rel => exact ⟨j + 1, K2 + 2 + m2, by go_num, rfl, HE2.out, by omega, ⟨_, s7, HBL.out⟩, hwr⟩
      case measure => simp [intOf]; omega
    · have hf := Lib.hid (mkToP_all l k0 (i := j) (by rw [HL.out]; omega))
      have hf2 : K = endS k0 l := by rw [HKj.out, List.take_of_length_le (by rw [HL.out]; omega)]
      have HF2 := Lib.hid hf2
      clear hf2
      go_wp2
      go_ret
      exact ⟨ret_int (by rw [HF2.out]), ⟨vs', by rw [← hf.out]; exact h1⟩, h2⟩

set_option maxHeartbeats 4000000 in
set_option maxRecDepth 100000 in
theorem heldStepS_any (A : Option Addr) (n cap k0 : Nat) (l : List Sp) (w : World) (ho : Sps w A n (marksSt k0 l)) (hn : l.length + totalP l ≤ 1048576) (hk : k0 + 4 * l.length + totalP l ≤ 16777216) :
    Calls Tryz.prog 31 #[.slice A n cap, .int .i64 k0] w fun e w' => e = .returned (.int .i64 ((endS k0 l : Nat) : Int)) ∧ Below w.heap.size w w' := by
  have HL := Lib.hid (show l.length = n by rw [← ho.len, marksSt_len])
  have HE := Lib.hid (fun i => endS_take_le l i k0)
  have HN := Lib.hid hn
  have HK := Lib.hid hk
  have hn1 : n ≤ 1048576 := by rw [← HL.out]; omega
  clear hn hk
  go_enter Tryz.func31, Tryz.ntmps31
  go_wp2
  go_loopw [1, 5] (fun q i w' => ∃ j K : Nat, i = .int .i64 j ∧ q = .int .i64 (K : Int) ∧ Hid (K = endS k0 (l.take j)) ∧ j ≤ n ∧ Below w.heap.size w w') (fun _ i _ => n - (intOf i).toNat)
  case atStart => exact ⟨0, k0, rfl, rfl, rfl, by omega, Below.refl _ _⟩
  case round =>
    obtain ⟨j, K, rfl, rfl, HKj, hj, hb⟩ := hrel
    by_cases hlt : j < n
    · obtain ⟨b, off, A1, m1, c1, A2, m2, c2, y, rfl, hy, d0, d1, d2, d3, d4, d5, hs1, hmc1, hs2, hmc2, hok⟩ := (ho.below hb).at_ hlt
      obtain ⟨x, hlj⟩ : ∃ x, l[j]? = some x := ⟨_, List.getElem?_eq_getElem (show j < l.length by rw [HL.out]; exact hlt)⟩
      have hy2 : y = markSp K x := by rw [marksSt_get k0 hlj, ← HKj.out] at hy; injection hy with hy; exact hy.symm
      subst hy2
      have hl1 : m1 = x.old.length := by rw [← hs1.len]; exact marks_len _ _
      have hl2 : m2 = x.new.length := by rw [← hs2.len]; exact marks_len _ _
      have hKle : K ≤ 16777216 := by have := HE.out j; have := HK.out; have := HKj.out; omega
      have hnx : nextSp K x = endS k0 (l.take (j + 1)) := by rw [take_snoc hlj, endS_snoc, ← HKj.out]
      have hKm : K + 2 + m1 + 2 + m2 ≤ 16777216 := by
        have h3 := HE.out (j + 1)
        rw [← hnx] at h3
        unfold nextSp at h3
        have := HK.out
        omega
      have hm1 : m1 ≤ 1048576 ∧ m2 ≤ 1048576 := by have := totalP_mem (List.mem_of_getElem? hlj); have := HN.out; unfold bulk at *; omega
      obtain ⟨hm1, hm2⟩ := hm1
      obtain ⟨K2, HK2⟩ : ∃ K2 : Nat, Hid (K2 = K + 2 + m1) := ⟨_, rfl⟩
      have hK2 : K2 + 2 + m2 ≤ 16777216 := by have := HK2.out; omega
      have hs1' : Strs wr A1 m1 (marks (K + 2) m1) := by rw [hl1] at hs1 ⊢; exact hs1
      have hs2' : Strs wr A2 m2 (marks (K2 + 2) m2) := by
        have e : (markSp K x).new = marks (K2 + 2) m2 := by unfold markSp; dsimp only; rw [HK2.out, ← hl1, ← hl2]
        rw [e] at hs2; exact hs2
      have HS2 := Lib.hid hs2'
      have HE2 := Lib.hid (show K2 + 2 + m2 = endS k0 (l.take (j + 1)) by rw [← hnx]; unfold nextSp; rw [HK2.out, hl1, hl2])
      have k0' : wr.cell? ⟨b, off + j * 6, none⟩ = some (.int .i64 (K : Int)) := d0
      have k1' : wr.cell? ⟨b, off + j * 6 + 1, none⟩ = some (.int .i64 ((K : Int) + 1)) := d1
      have e3 : (markSp K x).at_ = (K2 : Int) := by unfold markSp; dsimp only; rw [HK2.out, ← hl1]
      have e4 : (markSp K x).en = (K2 : Int) + 1 := by unfold markSp; dsimp only; rw [HK2.out, ← hl1]
      have HD := Lib.hid (show wr.cell? ⟨b, off + j * 6 + 3, none⟩ = some (.int .i64 (K2 : Int)) ∧ wr.cell? ⟨b, off + j * 6 + 4, none⟩ = some (.int .i64 ((K2 : Int) + 1)) ∧ wr.cell? ⟨b, off + j * 6 + 5, none⟩ = some (.slice A2 m2 c2) from ⟨by rw [← e3]; exact d3, by rw [← e4]; exact d4, d5⟩)
      clear hlj hy hs1 hs2 hs2' hl1 hl2 hnx d0 d1 d3 d4 d5 e3 e4 hok
      have hq0 : ((K : Int) != (K : Int)) = false := by simp
      have hq1 : ((K : Int) + 1 != (K : Int) + 1) = false := by simp
      have hq2 : ((K2 : Int) != (K2 : Int)) = false := by simp
      have hq3 : ((K2 : Int) + 1 != (K2 : Int) + 1) = false := by simp
      have hz2 : decide ((K2 : Int) < 0) = false := by simp
      go_wp2_with fail
      rw [show ((K : Int) + 1 + 1) = ((K + 2 : Nat) : Int) from by omega]
      refine (heldStringS_any A1 m1 c1 (K + 2) _ hs1' hm1 (by omega)).mono ?_
      rintro e w1 ⟨rfl, b1⟩
      have d3 := cell_keep b1 HD.out.1
      have d4 := cell_keep b1 HD.out.2.1
      have d5 := cell_keep b1 HD.out.2.2
      rw [← HK2.out]
      go_wp2_with fail
      rw [show ((K2 : Int) + 1 + 1) = ((K2 + 2 : Nat) : Int) from by omega]
      refine (heldStringS_any A2 m2 c2 (K2 + 2) _ (HS2.out.below b1) hm2 (by omega)).mono ?_
      rintro e w2 ⟨rfl, b2⟩
      have hz : decide ((((K2 + 2 + m2 : Nat) : Int)) < 0) = false := by simp; omega
      go_wp2
      go_roundw
      case rel => exact ⟨j + 1, K2 + 2 + m2, by go_num, rfl, HE2.out, by omega, (hb.next b1).next b2⟩
      case measure => simp [intOf]; omega
    · have hf2 : K = endS k0 l := by rw [HKj.out, List.take_of_length_le (by rw [HL.out]; omega)]
      have HF2 := Lib.hid hf2
      clear hf2
      go_wp2
      go_ret
      exact ⟨ret_int (by rw [HF2.out]), hb⟩

end Go.Proofs.YtnimaadjmejmpaaGreatDoor
