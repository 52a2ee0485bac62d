/-
  The laws' own small functions on hunks: copied, compared, marked.
-/
import Derived.Test.YtnimaadjmejmpaaDoorHMem
set_option linter.unusedSimpArgs false
set_option linter.unusedVariables false
namespace Go.Proofs.YtnimaadjmejmpaaDoor
open Go.RowKit Go.ChangeShapes Go.WideShapes M

theorem hk_info : (Tryd.prog.info? 46).map (fun i => (i.zero, i.size, i.bytes)) = some (some (.agg #[.int .i64 0, .int .i64 0, .slice none 0 0]), 3, 40) := by kernel_rfl
def blankCells (n : Nat) : Array Value := madeCells #[.int .i64 0, .int .i64 0, .slice none 0 0] (n * 3)
theorem make_hks (n : Nat) (hn : n ≤ 1048576) (w : World) :
    (Instr.makeSlice 29 (.int .i64 (n : Int)) (.int .i64 (n : Int))).run Tryd.prog w = .ok (.slice (some ⟨w.heap.size, 0, none⟩) n n) (w.alloc (.cells (blankCells n) 46)) := by
  obtain ⟨i, h1, h2, h3, h4⟩ := info_parts hk_info
  have hr := run_make (P := Tryd.prog) w 29 46 i _ Tryd.underlying29 h1 h2 .i64 .i64 n n (by omega) (by omega) (by rw [h4]; omega) (by omega)
  rw [h3] at hr
  simpa [blankCells, Value.cells] using hr
theorem blank_get (n k : Nat) (hk : k < n) : (blankCells n).toList[k * 3]? = some (.int .i64 0) ∧ (blankCells n).toList[k * 3 + 1]? = some (.int .i64 0) ∧ (blankCells n).toList[k * 3 + 2]? = some (.slice none 0 0) := by
  have hs : (blankCells n).size = n * 3 := by simp [blankCells, madeCells]
  have hg : ∀ (j r : Nat), j < n * 3 → j % 3 = r → (blankCells n).toList[j]? = some ((#[.int .i64 0, .int .i64 0, .slice none 0 0] : Array Value)[r]!) := by
    intro j r hj hr
    rw [← hr, blankCells, madeCells, Array.toList_map, Array.toList_range, List.getElem?_map, List.getElem?_range hj]
    rfl
  exact ⟨hg _ 0 (by omega) (by omega), hg _ 1 (by omega) (by omega), hg _ 2 (by omega) (by omega)⟩
theorem OwnH.made (w : World) (n : Nat) (hn : n ≤ 1048576) : OwnH (w.alloc (.cells (blankCells n) 46)) w.heap.size (.slice (some ⟨w.heap.size, 0, none⟩) n n) (List.replicate n blankH) (List.replicate n (.slice none 0 0)) := by
  have hs : (blankCells n).size = n * 3 := by simp [blankCells, madeCells]
  have hg : ∀ {α : Type} {k : Nat} {a b : α}, (List.replicate n a)[k]? = some b → k < n ∧ b = a := by
    intro α k a b h
    rw [List.getElem?_replicate] at h
    split at h
    · injection h with h; exact ⟨by assumption, h.symm⟩
    · cases h
  refine ⟨by simp, ⟨(blankCells n).toList, ⟨by simp [hs], .inr ⟨w.heap.size, n, blankCells n, by simp, Nat.le_refl _, heap_alloc_new w _, by simp, by unfold maxLen; omega, hs, by rw [List.length_replicate]; exact List.take_of_length_le (by simp [hs])⟩⟩, fun k h u hh hu => ?_⟩, fun k h u hh hu => ?_, fun k u g hu e => ?_, fun i j u u' g hu hu' e e' => ?_, fun h hh => ?_⟩
  · obtain ⟨hk, rfl⟩ := hg hh
    obtain ⟨_, rfl⟩ := hg hu
    exact blank_get n k hk
  · obtain ⟨hk, rfl⟩ := hg hh
    obtain ⟨_, rfl⟩ := hg hu
    exact OwnV.nil_
  · obtain ⟨_, rfl⟩ := hg hu
    cases e
  · obtain ⟨_, rfl⟩ := hg hu
    cases e
  · rw [List.eq_of_mem_replicate hh]
    exact ⟨⟨by decide, by decide⟩, ⟨by decide, by decide⟩⟩

set_option maxHeartbeats 400000 in
theorem toHunkS_any (a : Option Addr) (n c : Nat) (l : List Hk) (w : World) (hl : Hks w a n l) (hn : l.length + totalH l ≤ 1048576) :
    Calls Tryd.prog 9 #[.slice a n c] w fun e w' => e = .returned (.slice (some ⟨w.heap.size, 0, none⟩) n n) ∧ (∃ vs, OwnH w' w.heap.size (.slice (some ⟨w.heap.size, 0, none⟩) n n) l vs) ∧ Below w.heap.size w w' := by
  have HL := Lib.hid hl.len
  have hn1 : n ≤ 1048576 := by rw [← hl.len]; omega
  have hmk := make_hks n hn1
  have HN := Lib.hid hn
  clear hn
  go_enter Tryd.func9, Tryd.ntmps9
  go_wp2
  go_loopw [4] (fun i w' => ∃ k : Nat, i = .int .i64 k ∧ k ≤ n ∧ (∃ vs, OwnH w' w.heap.size (.slice (some ⟨w.heap.size, 0, none⟩) n n) (fillH l k) vs) ∧ Below w.heap.size w w') (fun i _ => n - (intOf i).toNat)
  case atStart =>
    refine ⟨0, rfl, by omega, ?_, (Below.refl _ _).alloc (Nat.le_refl _) _⟩
    rw [fillH_zero, HL.out]
    exact ⟨_, OwnH.made w n hn1⟩
  case round =>
    obtain ⟨k, rfl, hk, ⟨vs, ho⟩, hb⟩ := hrel
    by_cases hlt : k < n
    · obtain ⟨b, off, A, m, c', x, rfl, hx, c0, c1, c2, hs, hmc, i0, i1⟩ := (hl.below hb).at_ hlt
      have HX := Lib.hid hx
      have hm : m ≤ 1048576 := by have := totalH_mem (List.mem_of_getElem? hx); have := HN.out; have := hs.len; omega
      clear hx
      go_wp2_with fail
      refine (toHunk_any A m c' x _ hs hm ⟨i0, i1⟩).mono ?_
      rintro e w1 ⟨g, hg1, hg2, rfl, o1, b1⟩
      have ho1 := ho.below b1
      have hold : ∀ g', Blk (.slice (some ⟨w.heap.size, 0, none⟩) n n) vs g' → g' < wr.heap.size := fun g' e => (ho.lt e).2
      obtain ⟨g0, x0, a2, m2, c2', hg0, hb0, hl0, hx0, hu0, hmc0, d0, d1, d2, ho0, j0, j1, hfz⟩ := ho1.at_ hlt
      injection hg0 with hg0
      injection hg0 with hg0
      subst hg0
      have hput := ho1.put hlt x ⟨i0, i1⟩ (o1.more (show w.heap.size ≤ wr.heap.size from hb.size)) (fun g' e e2 => by have := hold g' e2; injection e with e; simp at e; omega)
      clear hx0 hu0
      go_wp2
      go_roundw
      case rel =>
        refine ⟨k + 1, by go_num, by omega, ⟨_, by rw [← fillH_set HX.out]; exact hput⟩, ?_⟩
        exact (((hb.next b1).setCell (Nat.le_refl _) _).setCell (Nat.le_refl _) _).setCell (Nat.le_refl _) _
      case measure => simp [intOf]; omega
    · have hf := Lib.hid (fillH_all l (k := k) (by rw [HL.out]; omega))
      go_wp2
      go_ret
      exact ⟨rfl, ⟨vs, by rw [hf.out] at ho; exact ho⟩, hb⟩

theorem eqHunk_any (A B : Option Addr) (m n c d : Nat) (x y : Hk) (w : World) (hx : Strs w A m x.new) (hy : Strs w B n y.new) :
    Calls Tryd.prog 22 #[.agg #[.int .i64 x.at_, .int .i64 x.gone, .slice A m c], .agg #[.int .i64 y.at_, .int .i64 y.gone, .slice B n d]] w fun e w' => e = .returned (.bool (eqH x y)) ∧ Below w.heap.size w w' := by
  have hb2 : Below w.heap.size w ((w.alloc (.cells #[.int .i64 x.at_, .int .i64 x.gone, .slice A m c] 46)).alloc (.cells #[.int .i64 y.at_, .int .i64 y.gone, .slice B n d] 46)) := (below_alloc w _).next (below_alloc _ _)
  by_cases h1 : x.at_ = y.at_
  · have q1 : (x.at_ != y.at_) = false := by simp [h1]
    by_cases h2 : x.gone = y.gone
    · have q2 : (x.gone != y.gone) = false := by simp [h2]
      have hf := Lib.hid (show eqH x y = eqT x.new y.new by simp [eqH, h1, h2])
      clear h1 h2
      go_enter Tryd.func22, Tryd.ntmps22
      go_wp2_with fail
      refine (eqStringS_any A B m n c d x.new y.new _ (hx.below hb2) (hy.below hb2)).mono ?_
      rintro e w1 ⟨rfl, d1⟩
      have b1 := hb2.next d1.below
      cases hq : eqT x.new y.new
      all_goals
        go_wp2
        go_ret
        exact ⟨ret_bool (by rw [hf.out, hq]), b1⟩
    · have q2 : (x.gone != y.gone) = true := by simp [h2]
      have hf := Lib.hid (show eqH x y = false by simp [eqH, h2])
      clear h1 h2
      go_enter Tryd.func22, Tryd.ntmps22
      go_wp2
      go_ret
      exact ⟨ret_bool hf.out.symm, hb2⟩
  · have q1 : (x.at_ != y.at_) = true := by simp [h1]
    have hf := Lib.hid (show eqH x y = false by simp [eqH, h1])
    clear h1
    go_enter Tryd.func22, Tryd.ntmps22
    go_wp2
    go_ret
    exact ⟨ret_bool hf.out.symm, hb2⟩

theorem eqH_step {l r : List Hk} {k : Nat} {s t : Hk} (H : ∀ j s t, j < k → l[j]? = some s → r[j]? = some t → eqH s t = true) (hs : l[k]? = some s) (ht : r[k]? = some t) (h : eqH s t = true) :
    ∀ j s t, j < k + 1 → l[j]? = some s → r[j]? = some t → eqH s t = true := by
  intro j s' t' hj hs' ht'
  by_cases e : j = k
  · subst e; rw [hs] at hs'; rw [ht] at ht'; injection hs' with hs'; injection ht' with ht'; rw [← hs', ← ht', h]
  · exact H j s' t' (by omega) hs' ht'

set_option maxHeartbeats 1000000 in
theorem eqHunkS_any (a b : Option Addr) (n m c d : Nat) (l r : List Hk) (w : World) (hl : Hks w a n l) (hr : Hks w b m r) :
    Calls Tryd.prog 12 #[.slice a n c, .slice b m d] w fun e w' => e = .returned (.bool (eqHS l r)) ∧ Below w.heap.size w w' := by
  have HL := Lib.hid hl.len
  have HR := Lib.hid hr.len
  have hlim := hl.lim
  unfold maxLen at hlim
  by_cases hnm : n = m
  · subst hnm
    have hq : ((n : Int) != (n : Int)) = false := by simp
    go_enter Tryd.func12, Tryd.ntmps12
    go_wp2
    go_loopw [5] (fun i w' => ∃ k : Nat, i = .int .i64 k ∧ k ≤ n ∧ Hid (∀ j s t, j < k → l[j]? = some s → r[j]? = some t → eqH s t = true) ∧ Below w.heap.size w w') (fun i _ => n - (intOf i).toNat)
    case atStart => exact ⟨0, rfl, by omega, fun j s t h => by omega, Below.refl _ _⟩
    case round =>
      obtain ⟨k, rfl, hk, H, hb⟩ := hrel
      by_cases hlt : k < n
      · obtain ⟨b1, off1, A1, m1, c1, x, rfl, hx, d0, d1, d2, hs1, _, _, _⟩ := (hl.below hb).at_ hlt
        obtain ⟨b2, off2, A2, m2, c2, y, rfl, hy, e0, e1, e2, hs2, _, _, _⟩ := (hr.below hb).at_ hlt
        have HX := Lib.hid hx
        have HY := Lib.hid hy
        clear hx hy
        have hi0 : (0 : Int) ≤ (k : Int) := by omega
        have hi1 : (k : Int) < (n : Int) := by omega
        go_wp2
        go_region_held3 (fun w' => w'.cell? ⟨b1, off1 + k * 3, none⟩ = some (.int .i64 x.at_) ∧ w'.cell? ⟨b1, off1 + k * 3 + 1, none⟩ = some (.int .i64 x.gone) ∧ w'.cell? ⟨b1, off1 + k * 3 + 2, none⟩ = some (.slice A1 m1 c1) ∧ w'.cell? ⟨b2, off2 + k * 3, none⟩ = some (.int .i64 y.at_) ∧ w'.cell? ⟨b2, off2 + k * 3 + 1, none⟩ = some (.int .i64 y.gone) ∧ w'.cell? ⟨b2, off2 + k * 3 + 2, none⟩ = some (.slice A2 m2 c2)) (first | exact ⟨d0, d1, d2, e0, e1, e2⟩ | exact ⟨cell_keep q1 d0, cell_keep q1 d1, cell_keep q1 d2, cell_keep q1 e0, cell_keep q1 e1, cell_keep q1 e2⟩ | go_keep)
          (first | (go_at_call 22; refine (eqHunk_any A1 A2 m1 m2 c1 c2 x y _ (hs1.below (Below.refl _ _).drew) (hs2.below (Below.refl _ _).drew)).mono ?_; rintro e w1 ⟨rfl, q1⟩))
        have hbq := hb.drew.next q1
        cases hq2 : eqH x y
        · have hf := Lib.hid (eqHS_at HX.out HY.out hq2)
          go_wp2
          go_ret
          exact ⟨ret_bool hf.out.symm, hbq⟩
        · have HST := Lib.hid hq2
          go_wp2
          go_roundw
          case rel => exact ⟨k + 1, by go_num, by omega, eqH_step H.out HX.out HY.out HST.out, hbq⟩
          case measure => simp [intOf]; omega
      · have hf := Lib.hid (eqHS_all (fun j s t h1 h2 => H.out j s t (by have := (List.getElem?_eq_some_iff.1 h1).1; have := HL.out; omega) h1 h2) (HL.out.trans HR.out.symm))
        go_wp2
        go_ret
        exact ⟨ret_bool hf.out.symm, hb⟩
  · have hq : ((n : Int) != (m : Int)) = true := by simp; omega
    have hf := Lib.hid (eqHS_len (l := l) (r := r) (by rw [HL.out, HR.out]; exact hnm))
    go_enter Tryd.func12, Tryd.ntmps12
    go_wp2
    go_ret
    exact ⟨ret_bool hf.out.symm, Below.refl _ _⟩

theorem nat_ok {k : Nat} (h : k ≤ 33554432) : i64ok (k : Int) := ⟨by omega, by omega⟩
theorem markHk_new (k : Nat) (x : Hk) : (markHk k x).new = marks (k + 2) x.new.length := rfl

theorem szT_more (a : Option Addr) (n c : Nat) (l : List ByteArray) (left : Int) (w : World) (hl : Strs w a n l) (h0 : 0 ≤ left) (h1 : left ≤ 1048576) (h : (l.length : Int) + total l ≤ left) :
    Calls Tryd.prog 5 #[.slice a n c, .int .i64 left] w fun e w' => ∃ r : Int, 0 ≤ r ∧ r ≤ 1048576 ∧ Hid (r + l.length + total l = left) ∧ e = .returned (.int .i64 r) ∧ w = w' := by
  have e : szS l left = left - l.length - total l := if_neg (by omega)
  refine (szStringS_any a n c l left w hl h0 h1).mono fun e' w' ⟨h1, h2⟩ => ⟨szS l left, by omega, by omega, show _ = _ by omega, h1, h2⟩
theorem szH_more (a : Option Addr) (n c : Nat) (l : List Hk) (left : Int) (w : World) (hl : Hks w a n l) (h0 : 0 ≤ left) (h1 : left ≤ 1048576) (h : (l.length : Int) + totalH l ≤ left) :
    Calls Tryd.prog 6 #[.slice a n c, .int .i64 left] w fun e w' => ∃ r : Int, 0 ≤ r ∧ r ≤ 1048576 ∧ Hid (r + l.length + totalH l = left) ∧ e = .returned (.int .i64 r) ∧ Below w.heap.size w w' := by
  have e : szHS l left = left - l.length - totalH l := if_neg (by omega)
  refine (szHunkS_any a n c l left w hl h0 h1).mono fun e' w' ⟨h1, h2⟩ => ⟨szHS l left, by omega, by omega, show _ = _ by omega, h1, h2⟩
theorem Wrote.below' {S : Nat → Prop} {w w' a : World} (hb : Below a.heap.size a w) (h : Wrote S w w') (hs : ∀ k, S k → a.heap.size ≤ k) : Below a.heap.size a w' := Wrote.below hb h hb.size hs

end Go.Proofs.YtnimaadjmejmpaaDoor
