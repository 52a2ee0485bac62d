/-
  The laws' own small functions on groups: counted, copied, compared, marked, held.
-/
import Derived.Test.YtgohaemmnpifbaaGLaw1
set_option linter.unusedSimpArgs false
set_option linter.unusedVariables false
namespace Go.Proofs.Ytgohaemmnpifbaa
open Go.RowKit Go.ChangeShapes Go.WideShapes M

theorem szR_neg (a : Option Addr) (n c : Nat) (l : List Rw) (left : Int) (w : World) (hl : Rws w a n l) (h0 : 0 ≤ left) (h1 : left ≤ 1048576) (h : left < l.length + totalR l) :
    Calls Try.prog 53 #[.slice a n c, .int .i64 left] w fun e w' => e = .returned (.int .i64 (-1)) ∧ Below w.heap.size w w' := by
  have e : szRS l left = -1 := if_pos h
  rw [← e]
  exact szRowS_any a n c l left w hl h0 h1

theorem szGroup_any (A : Option Addr) (m c : Nat) (x : Gp) (left : Int) (w : World) (hl : Rws w A m x.rows) (h0 : 0 ≤ left) (h1 : left ≤ 1048576) :
    Calls Try.prog 25 #[.agg #[.int .i64 x.at_, .int .i64 x.to_, .slice A m c], .int .i64 left] w fun e w' => e = .returned (.int .i64 (szRS x.rows left)) ∧ Below w.heap.size w w' := by
  by_cases hn : left < x.rows.length + totalR x.rows
  · have hf := Lib.hid (show szRS x.rows left = -1 from if_pos hn)
    go_enter Try.func25, Try.ntmps25
    go_wp2_with fail
    refine (szR_neg A m c x.rows left _ (hl.below (below_alloc _ _)) h0 h1 hn).mono ?_
    rintro e w1 ⟨rfl, b1⟩
    go_wp2
    go_ret
    exact ⟨ret_int hf.out.symm, (below_alloc _ _).next b1⟩
  · obtain ⟨r, hs1, hr'⟩ : ∃ r, Hid (szRS x.rows left = r) ∧ Hid (r = left - x.rows.length - totalR x.rows) := ⟨_, rfl, if_neg hn⟩
    have hr2 : 0 ≤ r ∧ r ≤ 1048576 := by have := hr'.out; omega
    obtain ⟨hr2, hr3⟩ := hr2
    clear hn
    go_enter Try.func25, Try.ntmps25
    go_wp2_with fail
    refine (szRowS_any A m c x.rows left _ (hl.below (below_alloc _ _)) h0 h1).mono ?_
    rintro e w1 ⟨rfl, b1⟩
    rw [hs1.out]
    go_wp2
    go_ret
    exact ⟨ret_int hs1.out.symm, (below_alloc _ _).next b1⟩

theorem szG1_neg (A : Option Addr) (m c : Nat) (x : Gp) (left : Int) (w : World) (hl : Rws w A m x.rows) (h0 : 0 ≤ left) (h1 : left ≤ 1048576) (h : left < bulkG x) :
    Calls Try.prog 25 #[.agg #[.int .i64 x.at_, .int .i64 x.to_, .slice A m c], .int .i64 left] w fun e w' => e = .returned (.int .i64 (-1)) ∧ Below w.heap.size w w' := by
  have e : szRS x.rows left = -1 := if_pos (by unfold bulkG at h; omega)
  rw [← e]
  exact szGroup_any A m c x left w hl h0 h1
theorem szG1_more (A : Option Addr) (m c : Nat) (x : Gp) (left : Int) (w : World) (hl : Rws w A m x.rows) (h0 : 0 ≤ left) (h1 : left ≤ 1048576) (h : (bulkG x : Int) ≤ left) :
    Calls Try.prog 25 #[.agg #[.int .i64 x.at_, .int .i64 x.to_, .slice A m c], .int .i64 left] w fun e w' => ∃ r : Int, 0 ≤ r ∧ r ≤ 1048576 ∧ Hid (r + bulkG x = left) ∧ e = .returned (.int .i64 r) ∧ Below w.heap.size w w' := by
  have e : szRS x.rows left = left - x.rows.length - totalR x.rows := if_neg (by unfold bulkG at h; omega)
  refine (szGroup_any A m c x left w hl h0 h1).mono fun e' w' ⟨h1, h2⟩ => ⟨szRS x.rows left, by unfold bulkG at h; omega, by omega, show _ = _ by unfold bulkG at *; omega, h1, h2⟩

set_option maxHeartbeats 400000 in
theorem szGroupS_any (a : Option Addr) (n c : Nat) (l : List Gp) (left : Int) (w : World) (hl : Gps w a n l) (h0 : 0 ≤ left) (h1 : left ≤ 1048576) :
    Calls Try.prog 21 #[.slice a n c, .int .i64 left] w fun e w' => e = .returned (.int .i64 (szGS l left)) ∧ Below w.heap.size w w' := by
  have hlim := hl.lim
  unfold maxLen at hlim
  have HL := Lib.hid hl.len
  by_cases hn : left < n
  · have hf := Lib.hid (show szGS l left = -1 from if_pos (by rw [HL.out]; omega))
    go_enter Try.func21, Try.ntmps21
    go_wp2
    go_ret
    exact ⟨ret_int hf.out.symm, Below.refl _ _⟩
  · go_enter Try.func21, Try.ntmps21
    go_wp2
    go_loopw [1, 5] (fun q i w' => ∃ k : Nat, ∃ r : Int, i = .int .i64 k ∧ q = .int .i64 r ∧ k ≤ n ∧ 0 ≤ r ∧ r ≤ 1048576 ∧ Hid (r + n + totalG (l.take k) = left) ∧ Below w.heap.size w w') (fun _ i _ => n - (intOf i).toNat)
    case atStart => exact ⟨0, left - n, rfl, rfl, by omega, by omega, by omega, show left - n + n + ((totalG (l.take 0) : Nat) : Int) = left by simp [totalG], Below.refl _ _⟩
    case round =>
      obtain ⟨k, r, rfl, rfl, hk, hr0, hr1, H, hb⟩ := hrel
      by_cases hlt : k < n
      · obtain ⟨b, off, A, m, c', x, rfl, hx, c0, c1, c2, hs, hmc, hok⟩ := (hl.below hb).at_ hlt
        have HX := Lib.hid hx
        clear hx
        by_cases hq : r < bulkG x
        · have hf := Lib.hid (show szGS l left = -1 from if_pos (by
            have h1 := totalG_take_succ HX.out; have h2 := totalG_take_le l (k + 1); have h3 := H.out; rw [HL.out]; omega))
          have HQ := Lib.hid hq
          clear hq
          go_wp2_with fail
          refine (szG1_neg A m c' x r _ hs hr0 hr1 HQ.out).mono ?_
          rintro e w1 ⟨rfl, b1⟩
          go_wp2
          go_ret
          exact ⟨ret_int hf.out.symm, hb.next b1⟩
        · have h1 := Lib.hid (totalG_take_succ HX.out)
          have HQ := Lib.hid (show (bulkG x : Int) ≤ r by omega)
          clear hq
          go_wp2_with fail
          refine (szG1_more A m c' x r _ hs hr0 hr1 HQ.out).mono ?_
          rintro e w1 ⟨r', hr2, hr3, hr', rfl, b1⟩
          go_wp2
          go_roundw
          case rel => exact ⟨k + 1, r', by go_num, rfl, by omega, by omega, by omega, show _ = _ by have h1 := h1.out; have h3 := H.out; have h4 := hr'.out; omega, hb.next b1⟩
          case measure => simp [intOf]; omega
      · have hf := Lib.hid (show szGS l left = r by
          have h3 := H.out
          have h4 : l.take k = l := List.take_of_length_le (by rw [HL.out]; omega)
          rw [h4] at h3
          unfold szGS
          rw [if_neg (by rw [HL.out]; omega), HL.out]
          omega)
        go_wp2
        go_ret
        exact ⟨ret_int hf.out.symm, hb⟩
theorem szG_neg (a : Option Addr) (n c : Nat) (l : List Gp) (left : Int) (w : World) (hl : Gps w a n l) (h0 : 0 ≤ left) (h1 : left ≤ 1048576) (h : left < l.length + totalG l) :
    Calls Try.prog 21 #[.slice a n c, .int .i64 left] w fun e w' => e = .returned (.int .i64 (-1)) ∧ Below w.heap.size w w' := by
  have e : szGS l left = -1 := if_pos h
  rw [← e]
  exact szGroupS_any a n c l left w hl h0 h1
theorem szG_more (a : Option Addr) (n c : Nat) (l : List Gp) (left : Int) (w : World) (hl : Gps w a n l) (h0 : 0 ≤ left) (h1 : left ≤ 1048576) (h : (l.length : Int) + totalG l ≤ left) :
    Calls Try.prog 21 #[.slice a n c, .int .i64 left] w fun e w' => ∃ r : Int, 0 ≤ r ∧ r ≤ 1048576 ∧ Hid (r + l.length + totalG l = left) ∧ e = .returned (.int .i64 r) ∧ Below w.heap.size w w' := by
  have e : szGS l left = left - l.length - totalG l := if_neg (by omega)
  refine (szGroupS_any a n c l left w hl h0 h1).mono fun e' w' ⟨h1, h2⟩ => ⟨szGS l left, by omega, by omega, show _ = _ by omega, h1, h2⟩

theorem eqGroup_any (A B : Option Addr) (m n c d : Nat) (x y : Gp) (w : World) (hx : Rws w A m x.rows) (hy : Rws w B n y.rows) :
    Calls Try.prog 29 #[.agg #[.int .i64 x.at_, .int .i64 x.to_, .slice A m c], .agg #[.int .i64 y.at_, .int .i64 y.to_, .slice B n d]] w fun e w' => e = .returned (.bool (eqGp x y)) ∧ Below w.heap.size w w' := by
  have hb2 : Below w.heap.size w ((w.alloc (.cells #[.int .i64 x.at_, .int .i64 x.to_, .slice A m c] 51)).alloc (.cells #[.int .i64 y.at_, .int .i64 y.to_, .slice B n d] 51)) := (below_alloc w _).next (below_alloc _ _)
  by_cases h1 : x.at_ = y.at_
  · have q1 : (x.at_ != y.at_) = false := by simp [h1]
    by_cases h2 : x.to_ = y.to_
    · have q2 : (x.to_ != y.to_) = false := by simp [h2]
      have hf := Lib.hid (show eqGp x y = eqRS x.rows y.rows by simp [eqGp, h1, h2])
      clear h1 h2
      go_enter Try.func29, Try.ntmps29
      go_wp2_with fail
      refine (eqRowS_any A B m n c d x.rows y.rows _ (hx.below hb2) (hy.below hb2)).mono ?_
      rintro e w1 ⟨rfl, d1⟩
      have b1 := hb2.next d1
      cases hq : eqRS x.rows y.rows
      all_goals
        go_wp2
        go_ret
        exact ⟨ret_bool (by rw [hf.out, hq]), b1⟩
    · have q2 : (x.to_ != y.to_) = true := by simp [h2]
      have hf := Lib.hid (show eqGp x y = false by simp [eqGp, h2])
      clear h1 h2
      go_enter Try.func29, Try.ntmps29
      go_wp2
      go_ret
      exact ⟨ret_bool hf.out.symm, hb2⟩
  · have q1 : (x.at_ != y.at_) = true := by simp [h1]
    have hf := Lib.hid (show eqGp x y = false by simp [eqGp, h1])
    clear h1
    go_enter Try.func29, Try.ntmps29
    go_wp2
    go_ret
    exact ⟨ret_bool hf.out.symm, hb2⟩

set_option maxHeartbeats 1000000 in
theorem eqGroupS_any (a b : Option Addr) (n m c d : Nat) (l r : List Gp) (w : World) (hl : Gps w a n l) (hr : Gps w b m r) :
    Calls Try.prog 14 #[.slice a n c, .slice b m d] w fun e w' => e = .returned (.bool (eqGS l r)) ∧ Below w.heap.size w w' := by
  have HL := Lib.hid hl.len
  have HR := Lib.hid hr.len
  have hlim := hl.lim
  unfold maxLen at hlim
  by_cases hnm : n = m
  · subst hnm
    have hq : ((n : Int) != (n : Int)) = false := by simp
    go_enter Try.func14, Try.ntmps14
    go_wp2
    go_loopw [5] (fun i w' => ∃ k : Nat, i = .int .i64 k ∧ k ≤ n ∧ Hid (∀ (j : Nat) s t, j < k → l[j]? = some s → r[j]? = some t → eqGp s t = true) ∧ Below w.heap.size w w') (fun i _ => n - (intOf i).toNat)
    case atStart => exact ⟨0, rfl, by omega, fun j s t h => by omega, Below.refl _ _⟩
    case round =>
      obtain ⟨k, rfl, hk, H, hb⟩ := hrel
      by_cases hlt : k < n
      · obtain ⟨b1, off1, A1, m1, c1, x, rfl, hx, d0, d1, d2, hs1, _, _⟩ := (hl.below hb).at_ hlt
        obtain ⟨b2, off2, A2, m2, c2, y, rfl, hy, e0, e1, e2, hs2, _, _⟩ := (hr.below hb).at_ hlt
        have HX := Lib.hid hx
        have HY := Lib.hid hy
        clear hx hy
        have hi0 : (0 : Int) ≤ (k : Int) := by omega
        have hi1 : (k : Int) < (n : Int) := by omega
        go_wp2
        go_region_held3 (fun w' => w'.cell? ⟨b1, off1 + k * 3, none⟩ = some (.int .i64 x.at_) ∧ w'.cell? ⟨b1, off1 + k * 3 + 1, none⟩ = some (.int .i64 x.to_) ∧ w'.cell? ⟨b1, off1 + k * 3 + 2, none⟩ = some (.slice A1 m1 c1) ∧ w'.cell? ⟨b2, off2 + k * 3, none⟩ = some (.int .i64 y.at_) ∧ w'.cell? ⟨b2, off2 + k * 3 + 1, none⟩ = some (.int .i64 y.to_) ∧ w'.cell? ⟨b2, off2 + k * 3 + 2, none⟩ = some (.slice A2 m2 c2)) (first | exact ⟨d0, d1, d2, e0, e1, e2⟩ | exact ⟨cell_keep q1 d0, cell_keep q1 d1, cell_keep q1 d2, cell_keep q1 e0, cell_keep q1 e1, cell_keep q1 e2⟩ | go_keep)
          (first | (go_at_call 29; refine (eqGroup_any A1 A2 m1 m2 c1 c2 x y _ (hs1.below (Below.refl _ _).drew) (hs2.below (Below.refl _ _).drew)).mono ?_; rintro e w1 ⟨rfl, q1⟩) | fail)
        have hbq := hb.drew.next q1
        cases hq2 : eqGp x y
        · have hf := Lib.hid (eqL_at eqGp_iff HX.out HY.out hq2)
          go_wp2
          go_ret
          exact ⟨ret_bool hf.out.symm, hbq⟩
        · have HST := Lib.hid hq2
          go_wp2
          go_roundw
          case rel => exact ⟨k + 1, by go_num, by omega, eqL_step H.out HX.out HY.out HST.out, hbq⟩
          case measure => simp [intOf]; omega
      · have hf := Lib.hid (eqL_all eqGp_iff (fun j s t h1 h2 => H.out j s t (by have := (List.getElem?_eq_some_iff.1 h1).1; have := HL.out; omega) h1 h2) (HL.out.trans HR.out.symm))
        go_wp2
        go_ret
        exact ⟨ret_bool hf.out.symm, hb⟩
  · have hq : ((n : Int) != (m : Int)) = true := by simp; omega
    have hf := Lib.hid (eqL_len eqGp_iff (l := l) (r := r) (by rw [HL.out, HR.out]; exact hnm))
    go_enter Try.func14, Try.ntmps14
    go_wp2
    go_ret
    exact ⟨ret_bool hf.out.symm, Below.refl _ _⟩

/-! Groups are copied. -/
theorem OwnRw.setBelow {w : World} {base : Nat} {v : Value} {l : List Rw} {a : Addr} (h : OwnRw w base v l) (hlt : a.block < base) (u : Value) : OwnRw (w.setCell a u) base v l :=
  h.wrote (Wrote.set (fun i => i = a.block) w a u rfl) (fun g e e2 => by have := (h.lt e).1; omega)

theorem toGroup_any (A : Option Addr) (m c : Nat) (x : Gp) (w : World) (hl : Rws w A m x.rows) (hm : m ≤ 1048576) :
    Calls Try.prog 27 #[.agg #[.int .i64 x.at_, .int .i64 x.to_, .slice A m c]] w fun e w' => ∃ b, w.heap.size ≤ b ∧ b < w'.heap.size ∧ e = .returned (.agg #[.int .i64 x.at_, .int .i64 x.to_, .slice (some ⟨b, 0, none⟩) m m]) ∧ OwnRw w' w.heap.size (.slice (some ⟨b, 0, none⟩) m m) x.rows ∧ Below w.heap.size w w' := by
  go_enter Try.func27, Try.ntmps27
  go_wp2_with fail
  refine (toRowS_any A m c x.rows _ (((hl.below (below_alloc _ _)).below (below_alloc _ _)).below (below_alloc _ _)) hm).mono ?_
  rintro e w1 ⟨rfl, o1, b1⟩
  simp only [World.size_alloc] at o1 b1 ⊢
  have q1 : w1.heap[w.heap.size + 1]? = some (.cells #[.int .i64 0, .int .i64 0, .slice none 0 0] 51 (0, 0)) := by
    rw [b1.block _ (by omega), Below.heap_alloc _ _ _ (by simp)]
    exact heap_at (by simp)
  have q2 : w1.heap[w.heap.size + 1 + 1]? = some (.cells #[.int .i64 x.at_, .int .i64 x.to_, .slice none 0 0] 51 (0, 0)) := by
    rw [b1.block _ (by omega)]
    exact heap_at (by simp)
  have c10 : w1.cell? ⟨w.heap.size + 1, 0, none⟩ = some (.int .i64 0) := by simp [World.cell?, q1]
  have c11 : w1.cell? ⟨w.heap.size + 1, 1, none⟩ = some (.int .i64 0) := by simp [World.cell?, q1]
  have c12 : w1.cell? ⟨w.heap.size + 1, 2, none⟩ = some (.slice none 0 0) := by simp [World.cell?, q1]
  have f1 : ∀ j, w1.frozen? ⟨w.heap.size + 1, j, none⟩ = false := fun j => by simp [World.frozen?, q1]
  have c20 : w1.cell? ⟨w.heap.size + 1 + 1, 0, none⟩ = some (.int .i64 x.at_) := by simp [World.cell?, q2]
  have c21 : w1.cell? ⟨w.heap.size + 1 + 1, 1, none⟩ = some (.int .i64 x.to_) := by simp [World.cell?, q2]
  have c22 : w1.cell? ⟨w.heap.size + 1 + 1, 2, none⟩ = some (.slice none 0 0) := by simp [World.cell?, q2]
  have f2 : ∀ j, w1.frozen? ⟨w.heap.size + 1 + 1, j, none⟩ = false := fun j => by simp [World.frozen?, q2]
  clear q1 q2
  go_wp2
  (try simp only [Exit.inBlock, Exit.then])
  refine bodyPost_ret (v := .agg #[.int .i64 x.at_, .int .i64 x.to_, .slice (some ⟨w.heap.size + 1 + 1 + 1, 0, none⟩) m m]) (by simp [results, Try.results27, go_sem, c10, c11, c12]) rfl ?_
  refine ⟨w.heap.size + 1 + 1 + 1, by omega, ?_, rfl, ?_, ?_⟩
  · have := (o1.lt (g := w.heap.size + 1 + 1 + 1) rfl).2
    simpa [World.setCell] using this
  · exact ((((o1.setBelow (by simp) _).setBelow (by simp) _).setBelow (by simp) _).setBelow (by simp) _).more (by omega)
  · have hb0 : Below w.heap.size w w1 := (((Below.refl _ w).alloc (Nat.le_refl _) _).alloc (by simp <;> omega) _ |>.alloc (by simp <;> omega) _).trans (b1.mono (by omega))
    exact (((hb0.setCell (by simp <;> omega) _).setCell (by simp <;> omega) _).setCell (by simp <;> omega) _).setCell (by simp <;> omega) _

theorem gp_info : (Try.prog.info? 51).map (fun i => (i.zero, i.size, i.bytes)) = some (some (.agg #[.int .i64 0, .int .i64 0, .slice none 0 0]), 3, 40) := by kernel_rfl
def blankGs (n : Nat) : Array Value := madeCells #[.int .i64 0, .int .i64 0, .slice none 0 0] (n * 3)
theorem make_gps (n : Nat) (hn : n ≤ 1048576) (w : World) :
    (Instr.makeSlice 26 (.int .i64 (n : Int)) (.int .i64 (n : Int))).run Try.prog w = .ok (.slice (some ⟨w.heap.size, 0, none⟩) n n) (w.alloc (.cells (blankGs n) 51)) := by
  obtain ⟨i, h1, h2, h3, h4⟩ := info_parts gp_info
  have hr := run_make (P := Try.prog) w 26 51 i _ Try.underlying26 h1 h2 .i64 .i64 n n (by omega) (by omega) (by rw [h4]; omega) (by omega)
  rw [h3] at hr
  simpa [blankGs, Value.cells] using hr
def blankGRow : List D := gpRow blankGp (.slice none 0 0)
theorem blankGs_rows (n : Nat) : ((List.replicate n blankGRow).flatten).map D.val = (blankGs n).toList := by
  apply List.ext_getElem?
  intro j
  have hw : ∀ r ∈ List.replicate n blankGRow, r.length = 3 := fun r hr => by rw [List.eq_of_mem_replicate hr]; rfl
  by_cases hj : j < n * 3
  · have hdm := Nat.div_add_mod j 3
    have hj6 : j % 3 < 3 := Nat.mod_lt _ (by omega)
    have e : (List.replicate n blankGRow)[j / 3]? = some blankGRow := by rw [List.getElem?_replicate, if_pos (by omega)]
    have h1 := flat_get hw e hj6
    rw [show j / 3 * 3 + j % 3 = j by omega] at h1
    rw [List.getElem?_map, h1]
    rw [blankGs, madeCells, Array.toList_map, Array.toList_range, List.getElem?_map, List.getElem?_range hj]
    show Option.map D.val blankGRow[j % 3]? = some ((#[.int .i64 0, .int .i64 0, .slice none 0 0] : Array Value)[j % 3]!)
    generalize j % 3 = q at hj6
    match q, hj6 with
    | 0, _ => rfl
    | 1, _ => rfl
    | 2, _ => rfl
  · rw [List.getElem?_eq_none (by rw [List.length_map, flat_len hw, List.length_replicate]; omega), List.getElem?_eq_none (by simp [blankGs, madeCells]; omega)]
theorem blankG_own (w : World) (base n : Nat) : D.ownL w base (List.replicate n blankGRow).flatten ∧ D.blocksL (List.replicate n blankGRow).flatten = [] := by
  induction n with
  | zero => exact ⟨trivial, rfl⟩
  | succ n ih =>
    rw [List.replicate_succ, List.flatten_cons, D.ownL_append, D.blocksL_append, ih.2]
    refine ⟨⟨⟨rfl, rfl, ⟨?_, trivial⟩, trivial⟩, ih.1⟩, rfl⟩
    exact w.ownsRow_nil base _ _
theorem OwnGp.made (w : World) (n : Nat) (hn : n ≤ 1048576) : OwnGp (w.alloc (.cells (blankGs n) 51)) w.heap.size (.slice (some ⟨w.heap.size, 0, none⟩) n n) (List.replicate n blankGp) (List.replicate n blankGRow) := by
  have hs : (blankGs n).size = n * 3 := by simp [blankGs, madeCells]
  have hw : ∀ r ∈ List.replicate n blankGRow, r.length = 3 := fun r hr => by rw [List.eq_of_mem_replicate hr]; rfl
  have hb := blankG_own (w.alloc (.cells (blankGs n) 51)) w.heap.size n
  refine ⟨by simp, ⟨⟨⟨?_, hb.1⟩, ?_⟩, hw⟩, fun k r x hr hx => ?_, fun x hx => ?_⟩
  · rw [blankGs_rows, List.length_replicate]
    exact ⟨by simp [hs], .inr ⟨w.heap.size, n, blankGs n, rfl, Nat.le_refl _, heap_alloc_new w _, Nat.le_refl _, by unfold maxLen; omega, hs, List.take_of_length_le (by simp [hs])⟩⟩
  · rw [D.blocks, hb.2]; simp [Value.ownBlock]
  · rw [List.eq_of_mem_replicate (List.mem_of_getElem? hr), List.eq_of_mem_replicate (List.mem_of_getElem? hx)]
    exact ⟨_, rfl⟩
  · rw [List.eq_of_mem_replicate hx]
    exact ⟨⟨by decide, by decide⟩, ⟨by decide, by decide⟩, fun s h => by simp [blankGp] at h⟩

set_option maxHeartbeats 1000000 in
theorem toGroupS_any (a : Option Addr) (n c : Nat) (l : List Gp) (w : World) (hl : Gps w a n l) (hn : l.length + totalG l ≤ 1048576) :
    Calls Try.prog 23 #[.slice a n c] w fun e w' => e = .returned (.slice (some ⟨w.heap.size, 0, none⟩) n n) ∧ (∃ vs, OwnGp w' w.heap.size (.slice (some ⟨w.heap.size, 0, none⟩) n n) l vs) ∧ Below w.heap.size w w' := by
  have HL := Lib.hid hl.len
  have hn1 : n ≤ 1048576 := by rw [← hl.len]; omega
  have hmk := make_gps n hn1
  have HN := Lib.hid hn
  clear hn
  go_enter Try.func23, Try.ntmps23
  go_wp2
  go_loopw [4] (fun i w' => ∃ k : Nat, i = .int .i64 k ∧ k ≤ n ∧ (∃ vs, OwnGp w' w.heap.size (.slice (some ⟨w.heap.size, 0, none⟩) n n) (fillL blankGp l k) vs) ∧ Below w.heap.size w w') (fun i _ => n - (intOf i).toNat)
  case atStart =>
    refine ⟨0, rfl, by omega, ?_, (Below.refl _ _).alloc (Nat.le_refl _) _⟩
    rw [fillL_zero, HL.out]
    exact ⟨_, OwnGp.made w n hn1⟩
  case round =>
    obtain ⟨k, rfl, hk, ⟨vs, ho⟩, hb⟩ := hrel
    by_cases hlt : k < n
    · obtain ⟨b, off, A, m, c', x, rfl, hx, c0, c1, c2, hs, hmc, hok⟩ := (hl.below hb).at_ hlt
      have HX := Lib.hid hx
      have hm : m ≤ 1048576 := by have := totalG_mem (List.mem_of_getElem? hx); have := HN.out; have := hs.len; unfold bulkG at *; omega
      clear hx
      go_wp2_with fail
      refine (toGroup_any A m c' x _ hs hm).mono ?_
      rintro e w1 ⟨g, hg1, hg2, rfl, o1, b1⟩
      have ho1 := ho.below b1
      have hold : ∀ g', BlkR (.slice (some ⟨w.heap.size, 0, none⟩) n n) vs g' → g' < wr.heap.size := fun g' e => (ho.lt e).2
      obtain ⟨g0, x0, a1, m1, c1', hg0, hb0, hl0, hx0, hr0, d0, d1, d2, ho0, hmc0, hok0, hfz⟩ := ho1.at_ hlt
      injection hg0 with hg0
      injection hg0 with hg0
      subst hg0
      have hput := ho1.put hlt x hok _ (o1.more (show w.heap.size ≤ wr.heap.size from hb.size)) (fun g' e e2 => by have := hold g' e2; injection e with e; simp at e; omega)
      clear hx0 hr0
      go_wp2
      go_roundw
      case rel =>
        refine ⟨k + 1, by go_num, by omega, ⟨_, by rw [← fillL_set HX.out]; exact hput⟩, ?_⟩
        exact (((hb.next b1).setCell (Nat.le_refl _) _).setCell (Nat.le_refl _) _).setCell (Nat.le_refl _) _
      case measure => simp [intOf]; omega
    · have hf := Lib.hid (fillL_all blankGp l (k := k) (by rw [HL.out]; omega))
      go_wp2
      go_ret
      exact ⟨rfl, ⟨vs, by rw [hf.out] at ho; exact ho⟩, hb⟩

end Go.Proofs.Ytgohaemmnpifbaa
