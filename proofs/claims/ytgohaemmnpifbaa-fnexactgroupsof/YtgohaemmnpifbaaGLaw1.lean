/-
  The laws' own small functions on rows: counted, copied, compared, marked, held.
-/
import Derived.Test.YtgohaemmnpifbaaGMem
import Derived.Test.YtgohaemmnpifbaaLawT
import Derived.Test.YtgohaemmnpifbaaHLaw
set_option linter.unusedSimpArgs false
set_option linter.unusedVariables false
namespace Go.Proofs.Ytgohaemmnpifbaa
open Go.RowKit Go.ChangeShapes Go.WideShapes M

theorem szRow_any (x : Rw) (left : Int) (w : World) (hx : x.line.size ≤ maxLen) (h0 : 0 ≤ left) (h1 : left ≤ 1048576) :
    Calls Try.prog 73 #[.agg #[.int .i64 x.kind, .string x.line], .int .i64 left] w fun e w' => e = .returned (.int .i64 (if left < x.line.size then -1 else left - x.line.size)) ∧ Below w.heap.size w w' := by
  unfold maxLen at hx
  by_cases hn : left < x.line.size
  · have hf := Lib.hid (show (if left < x.line.size then (-1 : Int) else left - x.line.size) = -1 from if_pos hn)
    go_enter Try.func73, Try.ntmps73
    go_wp2
    go_ret
    exact ⟨rfl, below_alloc _ _⟩
  · have hf := Lib.hid (show (if left < x.line.size then (-1 : Int) else left - x.line.size) = left - x.line.size from if_neg hn)
    go_enter Try.func73, Try.ntmps73
    go_wp2
    go_ret
    exact ⟨rfl, below_alloc _ _⟩

set_option maxHeartbeats 400000 in
theorem szRowS_any (a : Option Addr) (n c : Nat) (l : List Rw) (left : Int) (w : World) (hl : Rws w a n l) (h0 : 0 ≤ left) (h1 : left ≤ 1048576) :
    Calls Try.prog 53 #[.slice a n c, .int .i64 left] w fun e w' => e = .returned (.int .i64 (szRS l left)) ∧ Below w.heap.size w w' := by
  have hlim := hl.lim
  unfold maxLen at hlim
  have HL := Lib.hid hl.len
  by_cases hn : left < n
  · have hf := Lib.hid (show szRS l left = -1 from if_pos (by rw [HL.out]; omega))
    go_enter Try.func53, Try.ntmps53
    go_wp2
    go_ret
    exact ⟨ret_int hf.out.symm, Below.refl _ _⟩
  · go_enter Try.func53, Try.ntmps53
    go_wp2
    go_loopw [1, 5] (fun q i w' => ∃ k : Nat, ∃ r : Int, i = .int .i64 k ∧ q = .int .i64 r ∧ k ≤ n ∧ 0 ≤ r ∧ r ≤ 1048576 ∧ Hid (r + n + totalR (l.take k) = left) ∧ Below w.heap.size w w') (fun _ i _ => n - (intOf i).toNat)
    case atStart => exact ⟨0, left - n, rfl, rfl, by omega, by omega, by omega, show left - n + n + ((totalR (l.take 0) : Nat) : Int) = left by simp [totalR], Below.refl _ _⟩
    case round =>
      obtain ⟨k, r, rfl, rfl, hk, hr0, hr1, H, hb⟩ := hrel
      by_cases hlt : k < n
      · obtain ⟨b, off, x, rfl, hx, c0, c1, hok⟩ := (hl.below hb).at_ hlt
        have HX := Lib.hid hx
        clear hx
        by_cases hq : r < x.line.size
        · have hs1 := Lib.hid (show (if r < x.line.size then (-1 : Int) else r - x.line.size) = -1 from if_pos hq)
          have hf := Lib.hid (show szRS l left = -1 from if_pos (by
            have h1 := totalR_take_succ HX.out; have h2 := totalR_take_le l (k + 1); have h3 := H.out; rw [HL.out]; omega))
          clear hq
          go_wp2_with fail
          refine (szRow_any x r _ hok.line hr0 hr1).mono ?_
          rintro e w1 ⟨rfl, b1⟩
          rw [hs1.out]
          go_wp2
          go_ret
          exact ⟨ret_int hf.out.symm, hb.next b1⟩
        · have h1 := Lib.hid (totalR_take_succ HX.out)
          obtain ⟨r', hs1, hr'⟩ : ∃ r', Hid ((if r < x.line.size then (-1 : Int) else r - x.line.size) = r') ∧ Hid (r' = r - x.line.size) := ⟨_, rfl, if_neg hq⟩
          have hr2 : 0 ≤ r' ∧ r' ≤ 1048576 := by have := hr'.out; omega
          obtain ⟨hr2, hr3⟩ := hr2
          clear hq
          go_wp2_with fail
          refine (szRow_any x r _ hok.line hr0 hr1).mono ?_
          rintro e w1 ⟨rfl, b1⟩
          rw [hs1.out]
          go_wp2
          go_roundw
          case rel => exact ⟨k + 1, r', by go_num, rfl, by omega, by omega, by omega, show _ = _ by have h1 := h1.out; have h3 := H.out; have h4 := hr'.out; omega, hb.next b1⟩
          case measure => simp [intOf]; omega
      · have hf := Lib.hid (show szRS l left = r by
          have h3 := H.out
          have h4 : l.take k = l := List.take_of_length_le (by rw [HL.out]; omega)
          rw [h4] at h3
          unfold szRS
          rw [if_neg (by rw [HL.out]; omega), HL.out]
          omega)
        go_wp2
        go_ret
        exact ⟨ret_int hf.out.symm, hb⟩

theorem beq_bytes_true {s t : ByteArray} (h : s = t) : (s.toList == t.toList) = true := by rw [h]; exact beq_same t

theorem eqRow_any (x y : Rw) (w : World) :
    Calls Try.prog 77 #[.agg #[.int .i64 x.kind, .string x.line], .agg #[.int .i64 y.kind, .string y.line]] w fun e w' => e = .returned (.bool (eqRw x y)) ∧ Below w.heap.size w w' := by
  have hb2 : Below w.heap.size w ((w.alloc (.cells #[.int .i64 x.kind, .string x.line] 80)).alloc (.cells #[.int .i64 y.kind, .string y.line] 80)) := (below_alloc w _).next (below_alloc _ _)
  by_cases h1 : x.kind = y.kind
  · have q1 : (x.kind != y.kind) = false := by simp [h1]
    by_cases h2 : x.line = y.line
    · have q2 := beq_bytes_true h2
      have hf := Lib.hid (show eqRw x y = true by simp [eqRw, h1, h2])
      clear h1 h2
      go_enter Try.func77, Try.ntmps77
      go_wp2
      go_ret
      exact ⟨ret_bool hf.out.symm, hb2⟩
    · have q2 := beq_other h2
      have hf := Lib.hid (show eqRw x y = false by simp [eqRw, h2])
      clear h1 h2
      go_enter Try.func77, Try.ntmps77
      go_wp2
      go_ret
      exact ⟨ret_bool hf.out.symm, hb2⟩
  · have q1 : (x.kind != y.kind) = true := by simp [h1]
    have hf := Lib.hid (show eqRw x y = false by simp [eqRw, h1])
    clear h1
    go_enter Try.func77, Try.ntmps77
    go_wp2
    go_ret
    exact ⟨ret_bool hf.out.symm, hb2⟩

set_option maxHeartbeats 1000000 in
theorem eqRowS_any (a b : Option Addr) (n m c d : Nat) (l r : List Rw) (w : World) (hl : Rws w a n l) (hr : Rws w b m r) :
    Calls Try.prog 57 #[.slice a n c, .slice b m d] w fun e w' => e = .returned (.bool (eqRS l r)) ∧ Below w.heap.size w w' := by
  have HL := Lib.hid hl.len
  have HR := Lib.hid hr.len
  have hlim := hl.lim
  unfold maxLen at hlim
  by_cases hnm : n = m
  · subst hnm
    have hq : ((n : Int) != (n : Int)) = false := by simp
    go_enter Try.func57, Try.ntmps57
    go_wp2
    go_loopw [5] (fun i w' => ∃ k : Nat, i = .int .i64 k ∧ k ≤ n ∧ Hid (∀ (j : Nat) s t, j < k → l[j]? = some s → r[j]? = some t → eqRw s t = true) ∧ Below w.heap.size w w') (fun i _ => n - (intOf i).toNat)
    case atStart => exact ⟨0, rfl, by omega, fun j s t h => by omega, Below.refl _ _⟩
    case round =>
      obtain ⟨k, rfl, hk, H, hb⟩ := hrel
      by_cases hlt : k < n
      · obtain ⟨b1, off1, x, rfl, hx, d0, d1, _⟩ := (hl.below hb).at_ hlt
        obtain ⟨b2, off2, y, rfl, hy, e0, e1, _⟩ := (hr.below hb).at_ hlt
        have HX := Lib.hid hx
        have HY := Lib.hid hy
        clear hx hy
        have hi0 : (0 : Int) ≤ (k : Int) := by omega
        have hi1 : (k : Int) < (n : Int) := by omega
        go_wp2
        go_region_held3 (fun w' => w'.cell? ⟨b1, off1 + k * 2, none⟩ = some (.int .i64 x.kind) ∧ w'.cell? ⟨b1, off1 + k * 2 + 1, none⟩ = some (.string x.line) ∧ w'.cell? ⟨b2, off2 + k * 2, none⟩ = some (.int .i64 y.kind) ∧ w'.cell? ⟨b2, off2 + k * 2 + 1, none⟩ = some (.string y.line)) (first | exact ⟨d0, d1, e0, e1⟩ | exact ⟨cell_keep q1 d0, cell_keep q1 d1, cell_keep q1 e0, cell_keep q1 e1⟩ | go_keep)
          (first | (go_at_call 77; refine (eqRow_any x y _).mono ?_; rintro e w1 ⟨rfl, q1⟩) | fail)
        have hbq := hb.drew.next q1
        cases hq2 : eqRw x y
        · have hf := Lib.hid (eqL_at eqRw_iff HX.out HY.out hq2)
          go_wp2
          go_ret
          exact ⟨ret_bool hf.out.symm, hbq⟩
        · have HST := Lib.hid hq2
          go_wp2
          go_roundw
          case rel => exact ⟨k + 1, by go_num, by omega, eqL_step H.out HX.out HY.out HST.out, hbq⟩
          case measure => simp [intOf]; omega
      · have hf := Lib.hid (eqL_all eqRw_iff (fun j s t h1 h2 => H.out j s t (by have := (List.getElem?_eq_some_iff.1 h1).1; have := HL.out; omega) h1 h2) (HL.out.trans HR.out.symm))
        go_wp2
        go_ret
        exact ⟨ret_bool hf.out.symm, hb⟩
  · have hq : ((n : Int) != (m : Int)) = true := by simp; omega
    have hf := Lib.hid (eqL_len eqRw_iff (l := l) (r := r) (by rw [HL.out, HR.out]; exact hnm))
    go_enter Try.func57, Try.ntmps57
    go_wp2
    go_ret
    exact ⟨ret_bool hf.out.symm, Below.refl _ _⟩

/-! Rows are copied. -/
theorem rw_info : (Try.prog.info? 80).map (fun i => (i.zero, i.size, i.bytes)) = some (some (.agg #[.int .i64 0, .string ByteArray.empty]), 2, 24) := by kernel_rfl
def blankRs (n : Nat) : Array Value := madeCells #[.int .i64 0, .string ByteArray.empty] (n * 2)
theorem make_rws (n : Nat) (hn : n ≤ 1048576) (w : World) :
    (Instr.makeSlice 49 (.int .i64 (n : Int)) (.int .i64 (n : Int))).run Try.prog w = .ok (.slice (some ⟨w.heap.size, 0, none⟩) n n) (w.alloc (.cells (blankRs n) 80)) := by
  obtain ⟨i, h1, h2, h3, h4⟩ := info_parts rw_info
  have hr := run_make (P := Try.prog) w 49 80 i _ Try.underlying49 h1 h2 .i64 .i64 n n (by omega) (by omega) (by rw [h4]; omega) (by omega)
  rw [h3] at hr
  simpa [blankRs, Value.cells] using hr
theorem blankRs_rows (n : Nat) : ((List.replicate n (rwRow blankRw)).flatten).map D.val = (blankRs n).toList := by
  apply List.ext_getElem?
  intro j
  have hw : ∀ r ∈ List.replicate n (rwRow blankRw), r.length = 2 := fun r hr => by rw [List.eq_of_mem_replicate hr]; rfl
  by_cases hj : j < n * 2
  · have hdm := Nat.div_add_mod j 2
    have hj6 : j % 2 < 2 := Nat.mod_lt _ (by omega)
    have e : (List.replicate n (rwRow blankRw))[j / 2]? = some (rwRow blankRw) := by rw [List.getElem?_replicate, if_pos (by omega)]
    have h1 := flat_get hw e hj6
    rw [show j / 2 * 2 + j % 2 = j by omega] at h1
    rw [List.getElem?_map, h1]
    rw [blankRs, madeCells, Array.toList_map, Array.toList_range, List.getElem?_map, List.getElem?_range hj]
    show Option.map D.val (rwRow blankRw)[j % 2]? = some ((#[.int .i64 0, .string ByteArray.empty] : Array Value)[j % 2]!)
    generalize j % 2 = q at hj6
    match q, hj6 with
    | 0, _ => rfl
    | 1, _ => rfl
  · rw [List.getElem?_eq_none (by rw [List.length_map, flat_len hw, List.length_replicate]; omega), List.getElem?_eq_none (by simp [blankRs, madeCells]; omega)]
theorem OwnRw.made (w : World) (n : Nat) (hn : n ≤ 1048576) : OwnRw (w.alloc (.cells (blankRs n) 80)) w.heap.size (.slice (some ⟨w.heap.size, 0, none⟩) n n) (List.replicate n blankRw) := by
  have hs : (blankRs n).size = n * 2 := by simp [blankRs, madeCells]
  have ho := rwRow_ownL (w.alloc (.cells (blankRs n) 80)) w.heap.size (List.replicate n blankRw)
  have hb := rwRow_blocks (List.replicate n blankRw)
  refine ⟨⟨⟨⟨?_, ho⟩, ?_⟩, rwRow_wide _⟩, fun x hx => ?_⟩
  · rw [List.map_replicate, blankRs_rows, List.length_replicate]
    exact ⟨by simp [hs], .inr ⟨w.heap.size, n, blankRs n, rfl, Nat.le_refl _, heap_alloc_new w _, Nat.le_refl _, by unfold maxLen; omega, hs, List.take_of_length_le (by simp [hs])⟩⟩
  · rw [D.blocks, hb]; simp [Value.ownBlock]
  · rw [List.eq_of_mem_replicate hx]
    exact ⟨⟨by decide, by decide⟩, by unfold maxLen; decide⟩

theorem toRow_any (x : Rw) (w : World) :
    Calls Try.prog 76 #[.agg #[.int .i64 x.kind, .string x.line]] w fun e w' => e = .returned (.agg #[.int .i64 x.kind, .string x.line]) ∧ Below w.heap.size w w' := by
  go_enter Try.func76, Try.ntmps76
  go_wp2
  (try simp only [Exit.inBlock, Exit.then])
  refine bodyPost_ret (v := .agg #[.int .i64 x.kind, .string x.line]) (by simp [results, Try.results76, go_sem]) rfl ?_
  exact ⟨rfl, ((below_alloc w _).next (below_alloc _ _)).next (below_alloc _ _)⟩

end Go.Proofs.Ytgohaemmnpifbaa

namespace Go.Proofs.Ytgohaemmnpifbaa.M
def fillL {α : Type} (z : α) (l : List α) (k : Nat) : List α := l.take k ++ List.replicate (l.length - k) z
theorem fillL_zero {α : Type} (z : α) (l : List α) : fillL z l 0 = List.replicate l.length z := by simp [fillL]
theorem fillL_all {α : Type} (z : α) (l : List α) {k : Nat} (h : l.length ≤ k) : fillL z l k = l := by
  simp [fillL, List.take_of_length_le h, show l.length - k = 0 from by omega]
theorem fillL_set {α : Type} {z : α} {l : List α} {k : Nat} {s : α} (h : l[k]? = some s) : (fillL z l k).set k s = fillL z l (k + 1) := by
  obtain ⟨hk, e⟩ := List.getElem?_eq_some_iff.1 h
  unfold fillL
  rw [List.set_append, if_neg (by rw [List.length_take]; omega), take_at h, List.append_assoc]
  congr 1
  rw [List.length_take, show k - min k l.length = 0 by omega, show l.length - k = (l.length - (k + 1)) + 1 by omega, List.replicate_succ, List.set_cons_zero]
  rfl
end Go.Proofs.Ytgohaemmnpifbaa.M

namespace Go.Proofs.Ytgohaemmnpifbaa
open Go.RowKit Go.ChangeShapes Go.WideShapes M

set_option maxHeartbeats 1000000 in
theorem toRowS_any (a : Option Addr) (n c : Nat) (l : List Rw) (w : World) (hl : Rws w a n l) (hn : n ≤ 1048576) :
    Calls Try.prog 56 #[.slice a n c] w fun e w' => e = .returned (.slice (some ⟨w.heap.size, 0, none⟩) n n) ∧ OwnRw w' w.heap.size (.slice (some ⟨w.heap.size, 0, none⟩) n n) l ∧ Below w.heap.size w w' := by
  have HL := Lib.hid hl.len
  have hmk := make_rws n hn
  go_enter Try.func56, Try.ntmps56
  go_wp2
  go_loopw [4] (fun i w' => ∃ k : Nat, i = .int .i64 k ∧ k ≤ n ∧ OwnRw w' w.heap.size (.slice (some ⟨w.heap.size, 0, none⟩) n n) (fillL blankRw l k) ∧ Below w.heap.size w w') (fun i _ => n - (intOf i).toNat)
  case atStart =>
    refine ⟨0, rfl, by omega, ?_, (Below.refl _ _).alloc (Nat.le_refl _) _⟩
    rw [fillL_zero, HL.out]
    exact OwnRw.made w n hn
  case round =>
    obtain ⟨k, rfl, hk, ho, hb⟩ := hrel
    by_cases hlt : k < n
    · obtain ⟨b, off, x, rfl, hx, c0, c1, hok⟩ := (hl.below hb).at_ hlt
      have HX := Lib.hid hx
      clear hx
      go_wp2_with fail
      refine (toRow_any x _).mono ?_
      rintro e w1 ⟨rfl, b1⟩
      have ho1 := ho.below b1
      obtain ⟨g0, x0, hg0, hb0, hl0, hx0, d0, d1, hok0, hfz⟩ := ho1.at_ hlt
      injection hg0 with hg0
      injection hg0 with hg0
      subst hg0
      have hput := ho1.put hlt x hok
      clear hx0
      go_wp2
      go_roundw
      case rel =>
        refine ⟨k + 1, by go_num, by omega, by rw [← fillL_set HX.out]; exact hput, ?_⟩
        exact ((hb.next b1).setCell (Nat.le_refl _) _).setCell (Nat.le_refl _) _
      case measure => simp [intOf]; omega
    · have hf := Lib.hid (fillL_all blankRw l (k := k) (by rw [HL.out]; omega))
      go_wp2
      go_ret
      exact ⟨rfl, by rw [hf.out] at ho; exact ho, hb⟩

/-! Rows are marked. -/
section
variable {w w' : World} {base g n cap k : Nat} {l : List Rw} {x : Rw}
theorem OwnRw.setKind (h : OwnRw w base (.slice (some ⟨g, 0, none⟩) n cap) l) (hx : l[k]? = some x) (i : Int) (hi : i64ok i) :
    OwnRw (w.setCell ⟨g, k * 2, none⟩ (.int .i64 i)) base (.slice (some ⟨g, 0, none⟩) n cap) (l.set k ⟨i, x.line⟩) := by
  have hok := h.ok x (List.mem_of_getElem? hx)
  have hr : (l.map rwRow)[k]? = some (rwRow x) := by rw [List.getElem?_map, hx]; rfl
  have s0 := h.own.set (u := .int .i64 i) hr (j := 0) rfl rfl
  refine ⟨?_, fun y hy => ?_⟩
  · have e : (l.set k ⟨i, x.line⟩).map rwRow = (l.map rwRow).set k (rwRow ⟨i, x.line⟩) := by rw [List.map_set]
    rw [e]
    exact s0
  · rcases List.mem_or_eq_of_mem_set hy with h5 | h5
    · exact h.ok y h5
    · rw [h5]; exact ⟨hi, hok.line⟩
theorem OwnRw.setLine (h : OwnRw w base (.slice (some ⟨g, 0, none⟩) n cap) l) (hx : l[k]? = some x) (s : ByteArray) (hs : s.size ≤ maxLen) :
    OwnRw (w.setCell ⟨g, k * 2 + 1, none⟩ (.string s)) base (.slice (some ⟨g, 0, none⟩) n cap) (l.set k ⟨x.kind, s⟩) := by
  have hok := h.ok x (List.mem_of_getElem? hx)
  have hr : (l.map rwRow)[k]? = some (rwRow x) := by rw [List.getElem?_map, hx]; rfl
  have s0 := h.own.set (u := .string s) hr (j := 1) rfl rfl
  refine ⟨?_, fun y hy => ?_⟩
  · have e : (l.set k ⟨x.kind, s⟩).map rwRow = (l.map rwRow).set k (rwRow ⟨x.kind, s⟩) := by rw [List.map_set]
    rw [e]
    exact s0
  · rcases List.mem_or_eq_of_mem_set hy with h5 | h5
    · exact h.ok y h5
    · rw [h5]; exact ⟨hok.kind, hs⟩
end

set_option maxHeartbeats 1000000 in
theorem markRowS_any (A : Option Addr) (n cap base k0 : Nat) (l : List Rw) (w : World) (ho : OwnRw w base (.slice A n cap) l) (hn : n ≤ 1048576) (hk : k0 + 2 * n ≤ 16777216) :
    Calls Try.prog 47 #[.slice A n cap, .int .i64 k0] w fun e w' => e = .returned (.int .i64 ((k0 + 2 * n : Nat) : Int)) ∧ OwnRw w' base (.slice A n cap) (marksR k0 n) ∧ Wrote (fun i => (Value.slice A n cap).ownBlock = some i) w w' := by
  have HL := Lib.hid ho.len_
  go_enter Try.func47, Try.ntmps47
  go_wp2
  go_loopw [1, 5] (fun q i w' => ∃ j K : Nat, i = .int .i64 j ∧ q = .int .i64 (K : Int) ∧ Hid (K = k0 + 2 * j) ∧ j ≤ n ∧ OwnRw w' base (.slice A n cap) (mkToR l k0 j) ∧ Wrote (fun i => (Value.slice A n cap).ownBlock = some i) w w') (fun _ i _ => n - (intOf i).toNat)
  case atStart => exact ⟨0, k0, rfl, rfl, rfl, by omega, by rw [mkToR_zero]; exact ho, Wrote.refl _ _⟩
  case round =>
    obtain ⟨j, K, rfl, rfl, HK, hj, h1, h2⟩ := hrel
    by_cases hlt : j < n
    · obtain ⟨g, x, rfl, hb0, hg0, hx, d0, d1, hok, hfz⟩ := h1.at_ hlt
      have hKle : K + 2 ≤ 16777216 := by have := HK.out; omega
      have s1 := h1.setKind hx (K : Int) (nat_ok (by omega))
      have hlj : l[j]? = some x := by
        obtain ⟨y, hy⟩ : ∃ y, l[j]? = some y := ⟨_, List.getElem?_eq_getElem (show j < l.length by rw [HL.out]; exact hlt)⟩
        rw [mkToR_get k0 hy] at hx
        rw [hy, hx]
      have HJ := Lib.hid hlj
      have HLX := Lib.hid (show ∀ y : Rw, ((mkToR l k0 j).set j y)[j]? = some y from fun y => set_eq (by rw [mkToR_len _ _ _ (by rw [HL.out]; exact hj), HL.out]; exact hlt))
      have hms := markT_size (K + 1)
      clear hx hlj
      go_wp2_with fail
      rw [show ((K : Int) + 1) = ((K + 1 : Nat) : Int) from by omega]
      refine (markText_any (K + 1) _ (by omega)).mono ?_
      rintro e w1 ⟨rfl, b1⟩
      have s2 := (s1.below b1).setLine (HLX.out _) (markT (K + 1)) (by unfold maxLen; omega)
      obtain ⟨g', x', hg', _, _, _, e0, e1, _, fz1⟩ := (s1.below b1).at_ hlt
      injection hg' with hg'
      injection hg' with hg'
      subst hg'
      rw [List.set_set] at s2
      have s3 : OwnRw (w1.setCell ⟨g, j * 2 + 1, none⟩ (.string (markT (K + 1)))) base (.slice (some ⟨g, 0, none⟩) n cap) (mkToR l k0 (j + 1)) := by
        rw [← mkToR_set k0 HJ.out, ← HK.out]; exact s2
      have hwr := Lib.hid (show Wrote (fun i => (Value.slice (some ⟨g, 0, none⟩) n cap).ownBlock = some i) w (w1.setCell ⟨g, j * 2 + 1, none⟩ (.string (markT (K + 1)))) from
        (((h2.trans (Wrote.set (fun i => (Value.slice (some ⟨g, 0, none⟩) n cap).ownBlock = some i) wr ⟨g, j * 2, none⟩ _ rfl) (fun _ _ e => e)).next b1).trans (Wrote.set (fun i => (Value.slice (some ⟨g, 0, none⟩) n cap).ownBlock = some i) _ ⟨g, j * 2 + 1, none⟩ _ rfl) (fun _ _ e => e)))
      clear s2 d0 d1 hfz
      go_wp2
      go_roundw
      case rel => exact ⟨j + 1, K + 2, by go_num, by go_num, by have := HK.out; show K + 2 = _; omega, by omega, s3, hwr.out⟩
      case measure => simp [intOf]; omega
    · obtain rfl : j = n := by omega
      have hf := Lib.hid (mkToR_all l k0 (i := j) (by rw [HL.out]; omega) (by rw [HL.out]; omega))
      have HF2 := Lib.hid HK.out
      go_wp2
      go_ret
      refine ⟨ret_int (by rw [HF2.out]), ?_, h2⟩
      have h3 := hf.out
      rw [HL.out] at h3
      rw [← h3]
      exact h1

set_option maxHeartbeats 1000000 in
theorem heldRowS_any (A : Option Addr) (n cap k0 : Nat) (w : World) (ho : Rws w A n (marksR k0 n)) (hn : n ≤ 1048576) (hk : k0 + 2 * n ≤ 16777216) :
    Calls Try.prog 48 #[.slice A n cap, .int .i64 k0] w fun e w' => e = .returned (.int .i64 ((k0 + 2 * n : Nat) : Int)) ∧ Below w.heap.size w w' := by
  go_enter Try.func48, Try.ntmps48
  go_wp2
  go_loopw [1, 5] (fun q i w' => ∃ j K : Nat, i = .int .i64 j ∧ q = .int .i64 (K : Int) ∧ Hid (K = k0 + 2 * j) ∧ j ≤ n ∧ Below w.heap.size w w') (fun _ i _ => n - (intOf i).toNat)
  case atStart => exact ⟨0, k0, rfl, rfl, rfl, by omega, Below.refl _ _⟩
  case round =>
    obtain ⟨j, K, rfl, rfl, HK, hj, hb⟩ := hrel
    by_cases hlt : j < n
    · obtain ⟨b, off, y, rfl, hy, d0, d1, hok⟩ := (ho.below hb).at_ hlt
      have hKle : K + 2 ≤ 16777216 := by have := HK.out; omega
      have hy2 : y = markRw K := by rw [marksR_get _ _ _ hlt, ← HK.out] at hy; injection hy with hy; exact hy.symm
      subst hy2
      clear hy
      have c0 : wr.cell? ⟨b, off + j * 2, none⟩ = some (.int .i64 (K : Int)) := d0
      have c1 : wr.cell? ⟨b, off + j * 2 + 1, none⟩ = some (.string (markT (K + 1))) := d1
      clear d0 d1 hok
      have hi0 : (0 : Int) ≤ (j : Int) := by omega
      have hi1 : (j : Int) < (n : Int) := by omega
      have hq0 : ((K : Int) != (K : Int)) = false := by simp
      have hbq := beq_same (markT (K + 1))
      go_wp2
      rw [show ((K : Int) + 1) = ((K + 1 : Nat) : Int) from by omega]
      go_region_held3 (fun w' => w'.cell? ⟨b, off + j * 2 + 1, none⟩ = some (.string (markT (K + 1)))) (first | exact c1 | exact cell_keep b1 c1 | go_keep)
        (first | (go_at_call 46; refine (markText_any (K + 1) _ (by omega)).mono ?_; rintro e w1 ⟨rfl, b1⟩) | fail)
      go_wp2
      go_roundw
      case rel => exact ⟨j + 1, K + 2, by go_num, by go_num, by have := HK.out; show K + 2 = _; omega, by omega, hb.drew.next b1⟩
      case measure => simp [intOf]; omega
    · obtain rfl : j = n := by omega
      have HF2 := Lib.hid HK.out
      go_wp2
      go_ret
      exact ⟨ret_int (by rw [HF2.out]), hb⟩

end Go.Proofs.Ytgohaemmnpifbaa
