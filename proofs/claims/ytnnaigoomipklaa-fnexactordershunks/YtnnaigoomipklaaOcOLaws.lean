/-
  The laws' own small functions on orders: counted, copied, compared, marked, held.
-/
import Derived.Test.YtnnaigoomipklaaOcOMem
set_option linter.unusedSimpArgs false
set_option linter.unusedVariables false
namespace Go.Proofs.Ytnnaigoomipklaa
open Go.RowKit Go.ChangeShapes Go.WideShapes M

theorem szOrder_any (A : Option Addr) (m c : Nat) (x : Od) (left : Int) (w : World) (hl : Strs w A m x.new) (h0 : 0 ≤ left) (h1 : left ≤ 1048576) :
    Calls Try.prog 41 #[.agg #[.int .i64 x.kd, .int .i64 x.fr, .int .i64 x.to_, .slice A m c], .int .i64 left] w fun e w' => e = .returned (.int .i64 (szO x left)) ∧ Below w.heap.size w w' := by
  by_cases hn : left < x.new.length + total x.new
  · have hf := Lib.hid (show szO x left = -1 from if_pos (by unfold bulkO; omega))
    go_enter Try.func41, Try.ntmps41
    go_wp2_with fail
    refine (sz_neg A m c x.new left _ (hl.below (below_alloc _ _)) h0 h1 hn).mono ?_
    rintro e w1 ⟨rfl, rfl⟩
    go_wp2
    go_ret
    exact ⟨ret_int hf.out.symm, below_alloc _ _⟩
  · obtain ⟨r, HR, hr0, hr1⟩ : ∃ r, Hid (szS x.new left = r) ∧ 0 ≤ r ∧ r ≤ 1048576 := ⟨_, rfl, by unfold szS; rw [if_neg hn]; omega, by unfold szS; rw [if_neg hn]; omega⟩
    have hf := Lib.hid (show szO x left = r by
      have h2 : r = left - x.new.length - total x.new := by rw [← HR.out]; exact if_neg hn
      unfold szO bulkO
      rw [if_neg (by omega)]
      omega)
    clear hn
    go_enter Try.func41, Try.ntmps41
    go_wp2_with fail
    refine (szStringS_any A m c x.new left _ (hl.below (below_alloc _ _)) h0 h1).mono ?_
    rintro e w1 ⟨rfl, rfl⟩
    rw [HR.out]
    go_wp2
    go_ret
    exact ⟨ret_int hf.out.symm, below_alloc _ _⟩

set_option maxHeartbeats 400000 in
theorem szOrderS_any (a : Option Addr) (n c : Nat) (l : List Od) (left : Int) (w : World) (hl : Ods w a n l) (h0 : 0 ≤ left) (h1 : left ≤ 1048576) :
    Calls Try.prog 20 #[.slice a n c, .int .i64 left] w fun e w' => e = .returned (.int .i64 (szOS l left)) ∧ Below w.heap.size w w' := by
  have hlim := hl.lim
  unfold maxLen at hlim
  have HL := Lib.hid hl.len
  by_cases hn : left < n
  · have hf := Lib.hid (show szOS l left = -1 from if_pos (by rw [HL.out]; omega))
    go_enter Try.func20, Try.ntmps20
    go_wp2
    go_ret
    exact ⟨ret_int hf.out.symm, Below.refl _ _⟩
  · go_enter Try.func20, Try.ntmps20
    go_wp2
    go_loopw [1, 5] (fun q i w' => ∃ k : Nat, ∃ r : Int, i = .int .i64 k ∧ q = .int .i64 r ∧ k ≤ n ∧ 0 ≤ r ∧ r ≤ 1048576 ∧ Hid (r + n + totalO (l.take k) = left) ∧ Below w.heap.size w w') (fun _ i _ => n - (intOf i).toNat)
    case atStart => exact ⟨0, left - n, rfl, rfl, by omega, by omega, by omega, show left - n + n + ((totalO (l.take 0) : Nat) : Int) = left by simp [totalO], Below.refl _ _⟩
    case round =>
      obtain ⟨k, r, rfl, rfl, hk, hr0, hr1, H, hb⟩ := hrel
      by_cases hlt : k < n
      · obtain ⟨b, off, A, m, c', x, rfl, hx, c0, c1, c2, c3, hs, hmc, _⟩ := (hl.below hb).at_ hlt
        have HX := Lib.hid hx
        clear hx
        by_cases hq : r < bulkO x
        · have hs1 := Lib.hid (show szO x r = -1 from if_pos hq)
          have hf := Lib.hid (show szOS l left = -1 from if_pos (by
            have h1 := totalO_take_succ HX.out; have h2 := totalO_take_le l (k + 1); have h3 := H.out; rw [HL.out]; omega))
          clear hq
          go_wp2_with fail
          refine (szOrder_any A m c' x r _ hs hr0 hr1).mono ?_
          rintro e w1 ⟨rfl, b1⟩
          rw [hs1.out]
          go_wp2
          go_ret
          exact ⟨ret_int hf.out.symm, hb.next b1⟩
        · have h1 := Lib.hid (totalO_take_succ HX.out)
          obtain ⟨r', hs1, hr'⟩ : ∃ r', Hid (szO x r = r') ∧ Hid (r' = r - bulkO x) := ⟨_, rfl, if_neg hq⟩
          have hr2 : 0 ≤ r' ∧ r' ≤ 1048576 := by have := hr'.out; omega
          obtain ⟨hr2, hr3⟩ := hr2
          clear hq
          go_wp2_with fail
          refine (szOrder_any A m c' x r _ hs hr0 hr1).mono ?_
          rintro e w1 ⟨rfl, b1⟩
          rw [hs1.out]
          go_wp2
          go_roundw
          case rel => exact ⟨k + 1, r', by go_num, rfl, by omega, by omega, by omega, show _ = _ by have h1 := h1.out; have h3 := H.out; have h4 := hr'.out; omega, hb.next b1⟩
          case measure => simp [intOf]; omega
      · have hf := Lib.hid (show szOS l left = r by
          have h3 := H.out
          have h4 : l.take k = l := List.take_of_length_le (by rw [HL.out]; omega)
          rw [h4] at h3
          unfold szOS
          rw [if_neg (by rw [HL.out]; omega), HL.out]
          omega)
        go_wp2
        go_ret
        exact ⟨ret_int hf.out.symm, hb⟩

theorem szO_neg (a : Option Addr) (n c : Nat) (l : List Od) (left : Int) (w : World) (hl : Ods w a n l) (h0 : 0 ≤ left) (h1 : left ≤ 1048576) (h : left < l.length + totalO l) :
    Calls Try.prog 20 #[.slice a n c, .int .i64 left] w fun e w' => e = .returned (.int .i64 (-1)) ∧ Below w.heap.size w w' := by
  have e : szOS l left = -1 := if_pos h
  rw [← e]
  exact szOrderS_any a n c l left w hl h0 h1
theorem szO_more (a : Option Addr) (n c : Nat) (l : List Od) (left : Int) (w : World) (hl : Ods w a n l) (h0 : 0 ≤ left) (h1 : left ≤ 1048576) (h : (l.length : Int) + totalO l ≤ left) :
    Calls Try.prog 20 #[.slice a n c, .int .i64 left] w fun e w' => ∃ r : Int, 0 ≤ r ∧ r ≤ 1048576 ∧ Hid (r + l.length + totalO l = left) ∧ e = .returned (.int .i64 r) ∧ Below w.heap.size w w' := by
  have e : szOS l left = left - l.length - totalO l := if_neg (by omega)
  refine (szOrderS_any a n c l left w hl h0 h1).mono fun e' w' ⟨h1, h2⟩ => ⟨szOS l left, by omega, by omega, show _ = _ by omega, h1, h2⟩

theorem eqOrder_any (A1 A2 : Option Addr) (m1 c1 m2 c2 : Nat) (x y : Od) (w : World) (hx : Strs w A1 m1 x.new) (hy : Strs w A2 m2 y.new) :
    Calls Try.prog 38 #[.agg #[.int .i64 x.kd, .int .i64 x.fr, .int .i64 x.to_, .slice A1 m1 c1], .agg #[.int .i64 y.kd, .int .i64 y.fr, .int .i64 y.to_, .slice A2 m2 c2]] w fun e w' => e = .returned (.bool (eqO x y)) ∧ Below w.heap.size w w' := by
  obtain ⟨W, HW⟩ : ∃ W, Hid (W = (w.alloc (.cells #[.int .i64 x.kd, .int .i64 x.fr, .int .i64 x.to_, .slice A1 m1 c1] 65)).alloc (.cells #[.int .i64 y.kd, .int .i64 y.fr, .int .i64 y.to_, .slice A2 m2 c2] 65)) := ⟨_, rfl⟩
  have HB := Lib.hid (show Below w.heap.size w W by rw [HW.out]; exact (below_alloc w _).next (below_alloc _ _))
  by_cases h1 : x.kd = y.kd
  case neg =>
    have q1 : (x.kd != y.kd) = true := by simp [h1]
    have hf := Lib.hid (show eqO x y = false by simp [eqO, h1])
    clear h1
    go_enter Try.func38, Try.ntmps38
    go_wp2
    go_ret
    exact ⟨ret_bool hf.out.symm, by rw [← HW.out]; exact HB.out⟩
  have q1 : (x.kd != y.kd) = false := by simp [h1]
  by_cases h2 : x.fr = y.fr
  case neg =>
    have q2 : (x.fr != y.fr) = true := by simp [h2]
    have hf := Lib.hid (show eqO x y = false by simp [eqO, h2])
    clear h1 h2
    go_enter Try.func38, Try.ntmps38
    go_wp2
    go_ret
    exact ⟨ret_bool hf.out.symm, by rw [← HW.out]; exact HB.out⟩
  have q2 : (x.fr != y.fr) = false := by simp [h2]
  by_cases h3 : x.to_ = y.to_
  case neg =>
    have q3 : (x.to_ != y.to_) = true := by simp [h3]
    have hf := Lib.hid (show eqO x y = false by simp [eqO, h3])
    clear h1 h2 h3
    go_enter Try.func38, Try.ntmps38
    go_wp2
    go_ret
    exact ⟨ret_bool hf.out.symm, by rw [← HW.out]; exact HB.out⟩
  have q3 : (x.to_ != y.to_) = false := by simp [h3]
  have hf := Lib.hid (show eqO x y = eqT x.new y.new by simp [eqO, h1, h2, h3])
  clear h1 h2 h3
  go_enter Try.func38, Try.ntmps38
  go_wp2_with fail
  rw [← HW.out]
  refine (eqStringS_any A1 A2 m1 m2 c1 c2 x.new y.new _ (hx.below HB.out) (hy.below HB.out)).mono ?_
  rintro e w1 ⟨rfl, dd1⟩
  have b1 := HB.out.next dd1.below
  cases hq : eqT x.new y.new
  all_goals
    go_wp2
    go_ret
    exact ⟨ret_bool (by rw [hf.out, hq]), b1⟩

set_option maxHeartbeats 1000000 in
theorem eqOrderS_any (a b : Option Addr) (n m c d : Nat) (l r : List Od) (w : World) (hl : Ods w a n l) (hr : Ods w b m r) :
    Calls Try.prog 13 #[.slice a n c, .slice b m d] w fun e w' => e = .returned (.bool (eqOS l r)) ∧ Below w.heap.size w w' := by
  have HL := Lib.hid hl.len
  have HR := Lib.hid hr.len
  have hlim := hl.lim
  unfold maxLen at hlim
  by_cases hnm : n = m
  · subst hnm
    have hq : ((n : Int) != (n : Int)) = false := by simp
    go_enter Try.func13, Try.ntmps13
    go_wp2
    go_loopw [5] (fun i w' => ∃ k : Nat, i = .int .i64 k ∧ k ≤ n ∧ Hid (∀ j s t, j < k → l[j]? = some s → r[j]? = some t → eqO s t = true) ∧ Below w.heap.size w w') (fun i _ => n - (intOf i).toNat)
    case atStart => exact ⟨0, rfl, by omega, fun j s t h => by omega, Below.refl _ _⟩
    case round =>
      obtain ⟨k, rfl, hk, H, hb⟩ := hrel
      by_cases hlt : k < n
      · obtain ⟨b1, off1, A1, m1, c1, x, rfl, hx, d0, d1, d2, d3, hs1, _, _⟩ := (hl.below hb).at_ hlt
        obtain ⟨b2, off2, A2, m2, c2, y, rfl, hy, e0, e1, e2, e3, hs2, _, _⟩ := (hr.below hb).at_ hlt
        have HX := Lib.hid hx
        have HY := Lib.hid hy
        clear hx hy
        have hi0 : (0 : Int) ≤ (k : Int) := by omega
        have hi1 : (k : Int) < (n : Int) := by omega
        go_wp2
        go_region_held3 (fun w' => w'.cell? ⟨b1, off1 + k * 4, none⟩ = some (.int .i64 x.kd) ∧ w'.cell? ⟨b1, off1 + k * 4 + 1, none⟩ = some (.int .i64 x.fr) ∧ w'.cell? ⟨b1, off1 + k * 4 + 2, none⟩ = some (.int .i64 x.to_) ∧ w'.cell? ⟨b1, off1 + k * 4 + 3, none⟩ = some (.slice A1 m1 c1)
            ∧ w'.cell? ⟨b2, off2 + k * 4, none⟩ = some (.int .i64 y.kd) ∧ w'.cell? ⟨b2, off2 + k * 4 + 1, none⟩ = some (.int .i64 y.fr) ∧ w'.cell? ⟨b2, off2 + k * 4 + 2, none⟩ = some (.int .i64 y.to_) ∧ w'.cell? ⟨b2, off2 + k * 4 + 3, none⟩ = some (.slice A2 m2 c2))
          (first | exact ⟨d0, d1, d2, d3, e0, e1, e2, e3⟩ | exact ⟨cell_keep q1 d0, cell_keep q1 d1, cell_keep q1 d2, cell_keep q1 d3, cell_keep q1 e0, cell_keep q1 e1, cell_keep q1 e2, cell_keep q1 e3⟩ | go_keep)
          (first | (go_at_call 38; refine (eqOrder_any A1 A2 m1 c1 m2 c2 x y _ (hs1.below (Below.refl _ _).drew) (hs2.below (Below.refl _ _).drew)).mono ?_; rintro e w1 ⟨rfl, q1⟩) | fail)
        have hbq := hb.drew.next q1
        cases hq2 : eqO x y
        · have hf := Lib.hid (eqOS_at HX.out HY.out hq2)
          go_wp2
          go_ret
          exact ⟨ret_bool hf.out.symm, hbq⟩
        · have HST := Lib.hid hq2
          go_wp2
          go_roundw
          case rel => exact ⟨k + 1, by go_num, by omega, eqO_step H.out HX.out HY.out HST.out, hbq⟩
          case measure => simp [intOf]; omega
      · have hf := Lib.hid (eqOS_all (fun j s t h1 h2 => H.out j s t (by have := (List.getElem?_eq_some_iff.1 h1).1; have := HL.out; omega) h1 h2) (HL.out.trans HR.out.symm))
        go_wp2
        go_ret
        exact ⟨ret_bool hf.out.symm, hb⟩
  · have hq : ((n : Int) != (m : Int)) = true := by simp; omega
    have hf := Lib.hid (eqOS_len (l := l) (r := r) (by rw [HL.out, HR.out]; exact hnm))
    go_enter Try.func13, Try.ntmps13
    go_wp2
    go_ret
    exact ⟨ret_bool hf.out.symm, Below.refl _ _⟩

def blankOd (n : Nat) : Array Value := madeCells #[.int .i64 0, .int .i64 0, .int .i64 0, .slice none 0 0] (n * 4)
theorem make_ods (n : Nat) (hn : n ≤ 1048576) (w : World) :
    (Instr.makeSlice 26 (.int .i64 (n : Int)) (.int .i64 (n : Int))).run Try.prog w = .ok (.slice (some ⟨w.heap.size, 0, none⟩) n n) (w.alloc (.cells (blankOd n) 65)) := by
  obtain ⟨i, h1, h2, h3, h4⟩ := info_parts od_info
  have hr := run_make (P := Try.prog) w 26 65 i _ Try.underlying26 h1 h2 .i64 .i64 n n (by omega) (by omega) (by rw [h4]; omega) (by omega)
  rw [h3] at hr
  simpa [blankOd, Value.cells] using hr
def blankRowO : List D := odRow blankO (.slice none 0 0)
theorem blank_rowsO (n : Nat) : ((List.replicate n blankRowO).flatten).map D.val = (blankOd n).toList := by
  apply List.ext_getElem?
  intro j
  have hw : ∀ r ∈ List.replicate n blankRowO, r.length = 4 := fun r hr => by rw [List.eq_of_mem_replicate hr]; rfl
  by_cases hj : j < n * 4
  · have hdm := Nat.div_add_mod j 4
    have hj4 : j % 4 < 4 := Nat.mod_lt _ (by omega)
    have e : (List.replicate n blankRowO)[j / 4]? = some blankRowO := by rw [List.getElem?_replicate, if_pos (by omega)]
    have h1 := flat_get hw e hj4
    rw [show j / 4 * 4 + j % 4 = j by omega] at h1
    rw [List.getElem?_map, h1]
    rw [blankOd, madeCells, Array.toList_map, Array.toList_range, List.getElem?_map, List.getElem?_range hj]
    show Option.map D.val blankRowO[j % 4]? = some ((#[.int .i64 0, .int .i64 0, .int .i64 0, .slice none 0 0] : Array Value)[j % 4]!)
    generalize j % 4 = q at hj4
    match q, hj4 with
    | 0, _ => rfl
    | 1, _ => rfl
    | 2, _ => rfl
    | 3, _ => rfl
  · rw [List.getElem?_eq_none (by rw [List.length_map, flat_len hw, List.length_replicate]; omega), List.getElem?_eq_none (by simp [blankOd, madeCells]; omega)]
theorem blank_ownO (w : World) (base n : Nat) : D.ownL w base (List.replicate n blankRowO).flatten ∧ D.blocksL (List.replicate n blankRowO).flatten = [] := by
  induction n with
  | zero => exact ⟨trivial, rfl⟩
  | succ n ih =>
    rw [List.replicate_succ, List.flatten_cons, D.ownL_append, D.blocksL_append, ih.2]
    refine ⟨⟨⟨rfl, rfl, rfl, ⟨?_, trivial⟩, trivial⟩, ih.1⟩, rfl⟩
    exact w.ownsRow_nil base _ _
theorem OwnOd.made (w : World) (n : Nat) (hn : n ≤ 1048576) : OwnOd (w.alloc (.cells (blankOd n) 65)) w.heap.size (.slice (some ⟨w.heap.size, 0, none⟩) n n) (List.replicate n blankO) (List.replicate n blankRowO) := by
  have hs : (blankOd n).size = n * 4 := by simp [blankOd, madeCells]
  have hw : ∀ r ∈ List.replicate n blankRowO, r.length = 4 := fun r hr => by rw [List.eq_of_mem_replicate hr]; rfl
  have hb := blank_ownO (w.alloc (.cells (blankOd n) 65)) w.heap.size n
  refine ⟨by simp, ⟨⟨⟨?_, hb.1⟩, ?_⟩, hw⟩, fun k r x hr hx => ?_, fun x hx => ?_⟩
  · rw [blank_rowsO, List.length_replicate]
    exact ⟨by simp [hs], .inr ⟨w.heap.size, n, blankOd n, rfl, Nat.le_refl _, heap_alloc_new w _, Nat.le_refl _, by unfold maxLen; omega, hs, List.take_of_length_le (by simp [hs])⟩⟩
  · rw [D.blocks, hb.2]; simp [Value.ownBlock]
  · rw [List.eq_of_mem_replicate (List.mem_of_getElem? hr), List.eq_of_mem_replicate (List.mem_of_getElem? hx)]
    exact ⟨_, rfl⟩
  · rw [List.eq_of_mem_replicate hx]
    exact ⟨⟨by decide, by decide⟩, ⟨by decide, by decide⟩, ⟨by decide, by decide⟩, fun s h => by simp [blankO] at h⟩

set_option maxHeartbeats 1000000 in
theorem toOrder_any (A : Option Addr) (m c : Nat) (x : Od) (w : World) (hl : Strs w A m x.new) (hm : m ≤ 1048576) :
    Calls Try.prog 43 #[.agg #[.int .i64 x.kd, .int .i64 x.fr, .int .i64 x.to_, .slice A m c]] w fun e w' => ∃ b, w.heap.size ≤ b ∧ b < w'.heap.size ∧ e = .returned (.agg #[.int .i64 x.kd, .int .i64 x.fr, .int .i64 x.to_, .slice (some ⟨b, 0, none⟩) m m]) ∧ OwnV w' w.heap.size (.slice (some ⟨b, 0, none⟩) m m) x.new ∧ Below w.heap.size w w' := by
  obtain ⟨W, HW⟩ : ∃ W, Hid (W = (((w.alloc (.cells #[.int .i64 x.kd, .int .i64 x.fr, .int .i64 x.to_, .slice A m c] 69)).alloc (.cells #[.int .i64 0, .int .i64 0, .int .i64 0, .slice none 0 0] 65)).alloc (.cells #[.int .i64 x.kd, .int .i64 x.fr, .int .i64 x.to_, .slice none 0 0] 65))) := ⟨_, rfl⟩
  have HB := Lib.hid (show Below w.heap.size w W by rw [HW.out]; exact ((below_alloc w _).next (below_alloc _ _)).next (below_alloc _ _))
  have HSZ := Lib.hid (show W.heap.size = w.heap.size + 3 by rw [HW.out]; simp)
  have H1 := Lib.hid (show W.heap[w.heap.size + 1]? = some (.cells #[.int .i64 0, .int .i64 0, .int .i64 0, .slice none 0 0] 65 (0, 0)) by
    rw [HW.out, Below.heap_alloc _ _ _ (by simp)]; exact heap_at (by simp))
  have H2 := Lib.hid (show W.heap[w.heap.size + 1 + 1]? = some (.cells #[.int .i64 x.kd, .int .i64 x.fr, .int .i64 x.to_, .slice none 0 0] 65 (0, 0)) by
    rw [HW.out]; exact heap_at (by simp))
  go_enter Try.func43, Try.ntmps43
  go_wp2_with fail
  rw [← HW.out]
  refine (toStringS_any A m c x.new _ (hl.below HB.out) hm).mono ?_
  rintro e w1 ⟨rfl, o1, b1⟩
  rw [HSZ.out] at o1 b1 ⊢
  have q1 : w1.heap[w.heap.size + 1]? = some (.cells #[.int .i64 0, .int .i64 0, .int .i64 0, .slice none 0 0] 65 (0, 0)) := (b1.block _ (by omega)).trans H1.out
  have q2 : w1.heap[w.heap.size + 1 + 1]? = some (.cells #[.int .i64 x.kd, .int .i64 x.fr, .int .i64 x.to_, .slice none 0 0] 65 (0, 0)) := (b1.block _ (by omega)).trans H2.out
  have c10 : w1.cell? ⟨w.heap.size + 1, 0, none⟩ = some (.int .i64 0) := by simp [World.cell?, q1]
  have c11 : w1.cell? ⟨w.heap.size + 1, 1, none⟩ = some (.int .i64 0) := by simp [World.cell?, q1]
  have c12 : w1.cell? ⟨w.heap.size + 1, 2, none⟩ = some (.int .i64 0) := by simp [World.cell?, q1]
  have c13 : w1.cell? ⟨w.heap.size + 1, 3, none⟩ = some (.slice none 0 0) := by simp [World.cell?, q1]
  have f1 : ∀ j, w1.frozen? ⟨w.heap.size + 1, j, none⟩ = false := fun j => by simp [World.frozen?, q1]
  have c20 : w1.cell? ⟨w.heap.size + 1 + 1, 0, none⟩ = some (.int .i64 x.kd) := by simp [World.cell?, q2]
  have c21 : w1.cell? ⟨w.heap.size + 1 + 1, 1, none⟩ = some (.int .i64 x.fr) := by simp [World.cell?, q2]
  have c22 : w1.cell? ⟨w.heap.size + 1 + 1, 2, none⟩ = some (.int .i64 x.to_) := by simp [World.cell?, q2]
  have c23 : w1.cell? ⟨w.heap.size + 1 + 1, 3, none⟩ = some (.slice none 0 0) := by simp [World.cell?, q2]
  have f2 : ∀ j, w1.frozen? ⟨w.heap.size + 1 + 1, j, none⟩ = false := fun j => by simp [World.frozen?, q2]
  clear q1 q2
  have hz2 : w.heap.size + 3 < w1.heap.size := (o1.lt (g := w.heap.size + 3) rfl).2
  have HB2 := Lib.hid (HB.out.trans (b1.mono (show w.heap.size ≤ w.heap.size + 3 by omega)))
  go_wp2
  (try simp only [Exit.inBlock, Exit.then])
  refine bodyPost_ret (v := .agg #[.int .i64 x.kd, .int .i64 x.fr, .int .i64 x.to_, .slice (some ⟨w.heap.size + 3, 0, none⟩) m m]) (by simp [results, Try.results43, go_sem, c10, c11, c12, c13]) rfl ?_
  refine ⟨w.heap.size + 3, by omega, by simpa [World.setCell] using hz2, rfl, ?_, ?_⟩
  · exact (((((o1.setBelow (by simp <;> omega) _).setBelow (by simp <;> omega) _).setBelow (by simp <;> omega) _).setBelow (by simp <;> omega) _).setBelow (by simp <;> omega) _).more (by omega)
  · exact (((((HB2.out.setCell (by simp <;> omega) _).setCell (by simp <;> omega) _).setCell (by simp <;> omega) _).setCell (by simp <;> omega) _).setCell (by simp <;> omega) _)

set_option maxHeartbeats 1000000 in
theorem toOrderS_any (a : Option Addr) (n c : Nat) (l : List Od) (w : World) (hl : Ods w a n l) (hn : l.length + totalO l ≤ 1048576) :
    Calls Try.prog 22 #[.slice a n c] w fun e w' => e = .returned (.slice (some ⟨w.heap.size, 0, none⟩) n n) ∧ (∃ vs, OwnOd w' w.heap.size (.slice (some ⟨w.heap.size, 0, none⟩) n n) l vs) ∧ Below w.heap.size w w' := by
  have HL := Lib.hid hl.len
  have hn1 : n ≤ 1048576 := by rw [← hl.len]; omega
  have hmk := make_ods n hn1
  have HN := Lib.hid hn
  clear hn
  go_enter Try.func22, Try.ntmps22
  go_wp2
  go_loopw [4] (fun i w' => ∃ k : Nat, i = .int .i64 k ∧ k ≤ n ∧ (∃ vs, OwnOd w' w.heap.size (.slice (some ⟨w.heap.size, 0, none⟩) n n) (fillO l k) vs) ∧ Below w.heap.size w w') (fun i _ => n - (intOf i).toNat)
  case atStart =>
    refine ⟨0, rfl, by omega, ?_, (Below.refl _ _).alloc (Nat.le_refl _) _⟩
    rw [fillO_zero, HL.out]
    exact ⟨_, OwnOd.made w n hn1⟩
  case round =>
    obtain ⟨k, rfl, hk, ⟨vs, ho⟩, hb⟩ := hrel
    by_cases hlt : k < n
    · obtain ⟨b, off, A, m, c', x, rfl, hx, c0, c1, c2, c3, hs, hmc, hok⟩ := (hl.below hb).at_ hlt
      have HX := Lib.hid hx
      have hm : m ≤ 1048576 := by have := totalO_mem (List.mem_of_getElem? hx); have := HN.out; have := hs.len; unfold bulkO at *; omega
      clear hx
      go_wp2_with fail
      refine (toOrder_any A m c' x _ hs hm).mono ?_
      rintro e w1 ⟨g, hg1, hg2, rfl, o1, b1⟩
      have ho1 := ho.below b1
      have hold : ∀ g', BlkR (.slice (some ⟨w.heap.size, 0, none⟩) n n) vs g' → g' < wr.heap.size := fun g' e => (ho.lt e).2
      obtain ⟨g0, x0, a1, m1, c1', hg0, hb0, hl0, hx0, hr0, d0, d1, d2, d3, ho0, hmc0, hok0, hfz⟩ := ho1.at_ hlt
      injection hg0 with hg0
      injection hg0 with hg0
      subst hg0
      have hput := ho1.put hlt x hok _ (o1.more (show w.heap.size ≤ wr.heap.size from hb.size)) (fun g' e e2 => by have := hold g' e2; injection e with e; simp at e; omega)
      clear hx0 hr0
      go_wp2
      go_roundw
      case rel =>
        refine ⟨k + 1, by go_num, by omega, ⟨_, by rw [← fillO_set HX.out]; exact hput⟩, ?_⟩
        exact ((((hb.next b1).setCell (Nat.le_refl _) _).setCell (Nat.le_refl _) _).setCell (Nat.le_refl _) _).setCell (Nat.le_refl _) _
      case measure => simp [intOf]; omega
    · have hf := Lib.hid (fillO_all l (k := k) (by rw [HL.out]; omega))
      go_wp2
      go_ret
      exact ⟨rfl, ⟨vs, by rw [hf.out] at ho; exact ho⟩, hb⟩

set_option maxHeartbeats 4000000 in
set_option maxRecDepth 100000 in
theorem markOrderS_any (A : Option Addr) (n cap base k0 : Nat) (l : List Od) (vs : List (List D)) (w : World) (ho : OwnOd w base (.slice A n cap) l vs) (hn : l.length + totalO l ≤ 1048576) (hk : k0 + 3 * l.length + totalO l ≤ 16777216) :
    Calls Try.prog 18 #[.slice A n cap, .int .i64 k0] w fun e w' => e = .returned (.int .i64 ((endO k0 l : Nat) : Int)) ∧ (∃ vs', OwnOd w' base (.slice A n cap) (marksO k0 l) vs') ∧ Wrote (BlkR (.slice A n cap) vs) w w' := by
  have HL := Lib.hid ho.ods.len
  have HE := Lib.hid (fun i => endO_take_le l i k0)
  have HN := Lib.hid hn
  have HK := Lib.hid hk
  have hn1 : n ≤ 1048576 := by rw [← HL.out]; omega
  clear hn hk
  go_enter Try.func18, Try.ntmps18
  go_wp2
  go_loopw [1, 5] (fun q i w' => ∃ j K : Nat, i = .int .i64 j ∧ q = .int .i64 (K : Int) ∧ Hid (K = endO k0 (l.take j)) ∧ j ≤ n ∧ (∃ vs', OwnOd w' base (.slice A n cap) (mkToO l k0 j) vs' ∧ Hid (D.blocksL vs'.flatten = D.blocksL vs.flatten)) ∧ Wrote (BlkR (.slice A n cap) vs) w w') (fun _ i _ => n - (intOf i).toNat)
  case atStart => exact ⟨0, k0, rfl, rfl, rfl, by omega, ⟨vs, by rw [mkToO_zero]; exact ho, rfl⟩, Wrote.refl _ _⟩
  case round =>
    obtain ⟨j, K, rfl, rfl, HKj, hj, ⟨vs', h1, HV⟩, h2⟩ := hrel
    by_cases hlt : j < n
    · obtain ⟨g, x, a1, m1, c1, rfl, hb0, hg0, hx, hr, d0, d1, d2, d3, o1, hmc1, hok, hfz⟩ := h1.at_ hlt
      have hlj : l[j]? = some x := by
        obtain ⟨y, hy⟩ : ∃ y, l[j]? = some y := ⟨_, List.getElem?_eq_getElem (show j < l.length by rw [HL.out]; exact hlt)⟩
        rw [mkToO_get k0 hy] at hx
        rw [hy, hx]
      have hl1 : x.new.length = m1 := o1.strs.len
      have hKle : K ≤ 16777216 := by have := HE.out j; have := HK.out; have := HKj.out; omega
      have hnx : nextO K x = endO k0 (l.take (j + 1)) := by rw [take_snoc hlj, endO_snoc, ← HKj.out]
      have hKm : K + 3 + m1 ≤ 16777216 := by
        have h3 := HE.out (j + 1)
        rw [← hnx] at h3
        unfold nextO at h3
        have := HK.out
        omega
      have hm1 : m1 ≤ 1048576 := by have := totalO_mem (List.mem_of_getElem? hlj); have := HN.out; unfold bulkO at *; omega
      have hw1 := h1.own.wide
      have lx : ∀ y : Od, ((mkToO l k0 j).set j y)[j]? = some y := fun y => set_eq (by rw [mkToO_len, HL.out]; exact hlt)
      have hjv : j < vs'.length := (List.getElem?_eq_some_iff.1 hr).1
      have lr : ∀ y : List D, (vs'.set j y)[j]? = some y := fun y => set_eq hjv
      have s1 := h1.setKd hx hr (K : Int) (nat_ok (by omega))
      have s2 := s1.setFr (lx _) (lr _) ((K : Int) + 1) ⟨by omega, by omega⟩
      rw [List.set_set, List.set_set] at s2
      have s3 := s2.setTo (lx _) (lr _) ((K : Int) + 2) ⟨by omega, by omega⟩
      rw [List.set_set, List.set_set] at s3
      have HJ := Lib.hid hlj
      have HR := Lib.hid hr
      have HXX := Lib.hid hx
      have HLX := Lib.hid lx
      have HLR := Lib.hid lr
      have HNX := Lib.hid hnx
      have HW1 := Lib.hid hw1
      have HH1 := Lib.hid h1
      have HL1 := Lib.hid hl1
      have HS3 := Lib.hid s3
      have O13 := Lib.hid (s3.newAt (lx _) (lr _))
      clear hlj hr hx lx lr hnx hw1 h1 s1 s2 s3 hl1 o1 hmc1 hok hjv
      have hs12 : IntKind.i64.wrap ((K : Int) + 1 + 1) = (K : Int) + 2 := by rw [IntKind.wrap_i64]; omega
      go_wp2_with fail
      (try rw [show ((K : Int) + 1 + 1) = (K : Int) + 2 from by omega])
      (try rw [show ((K : Int) + 2 + 1) = ((K + 3 : Nat) : Int) from by omega])
      refine (markStringS_any a1 m1 c1 base (K + 3) x.new _ O13.out hm1 (by omega)).mono ?_
      rintro e w1 ⟨rfl, p1, g1⟩
      have s4 := HS3.out.renewNew (HLX.out _) (HLR.out _) g1 p1
      rw [List.set_set, List.set_set] at s4
      dsimp only at s4
      have s7 : OwnOd w1 base (.slice (some ⟨g, 0, none⟩) n cap) (mkToO l k0 (j + 1)) (vs'.set j (odRow (markO K x) (.slice a1 m1 c1))) := by
        have e : (⟨(K : Int), (K : Int) + 1, (K : Int) + 2, marks (K + 3) m1⟩ : Od) = markO K x := by
          unfold markO; rw [HL1.out]
        rw [← mkToO_set k0 HJ.out, ← HKj.out, ← e]
        exact s4
      have hwr : Wrote (BlkR (.slice (some ⟨g, 0, none⟩) n cap) vs) w w1 :=
        (((h2.trans (Wrote.set (fun i => i = g) wr _ _ rfl) (fun i _ e => by rw [e]; exact BlkR.of_self)).trans (Wrote.set (fun i => i = g) _ _ _ rfl) (fun i _ e => by rw [e]; exact BlkR.of_self)).trans (Wrote.set (fun i => i = g) _ _ _ rfl) (fun i _ e => by rw [e]; exact BlkR.of_self)).trans (Wrote.of_grown (S := fun i => (Value.slice a1 m1 c1).ownBlock = some i) g1 (fun _ e => e)) (fun i _ e => (blk_sameO HV.out i).1 (HH1.out.blkNew HR.out e))
      have HBL := Lib.hid ((blocks_rowO (y := markO K x) HW1.out HR.out).trans HV.out)
      have HE2 := Lib.hid (show K + 3 + m1 = endO k0 (l.take (j + 1)) by rw [← HNX.out]; unfold nextO; rw [HL1.out])
      clear s4 g1 p1 d0 d1 d2 d3 hfz
      go_wp2
      go_roundw
      case rel => exact ⟨j + 1, K + 3 + m1, by go_num, rfl, HE2.out, by omega, ⟨_, s7, HBL.out⟩, hwr⟩
      case measure => simp [intOf]; omega
    · have hf := Lib.hid (mkToO_all l k0 (i := j) (by rw [HL.out]; omega))
      have hf2 : K = endO k0 l := by rw [HKj.out, List.take_of_length_le (by rw [HL.out]; omega)]
      have HF2 := Lib.hid hf2
      clear hf2
      go_wp2
      go_ret
      exact ⟨ret_int (by rw [HF2.out]), ⟨vs', by rw [← hf.out]; exact h1⟩, h2⟩

end Go.Proofs.Ytnnaigoomipklaa
