/-
  The laws' own small functions on hunks: copied, compared, marked.
-/
import Derived.Test.YtgohaemmnpifbaaHMem
set_option linter.unusedSimpArgs false
set_option linter.unusedVariables false
namespace Go.Proofs.Ytgohaemmnpifbaa
open Go.RowKit Go.ChangeShapes Go.WideShapes M

theorem hk_info : (Try.prog.info? 64).map (fun i => (i.zero, i.size, i.bytes)) = some (some (.agg #[.int .i64 0, .int .i64 0, .slice none 0 0]), 3, 40) := by kernel_rfl
def blankCells (n : Nat) : Array Value := madeCells #[.int .i64 0, .int .i64 0, .slice none 0 0] (n * 3)
theorem make_hks (n : Nat) (hn : n ≤ 1048576) (w : World) :
    (Instr.makeSlice 30 (.int .i64 (n : Int)) (.int .i64 (n : Int))).run Try.prog w = .ok (.slice (some ⟨w.heap.size, 0, none⟩) n n) (w.alloc (.cells (blankCells n) 64)) := by
  obtain ⟨i, h1, h2, h3, h4⟩ := info_parts hk_info
  have hr := run_make (P := Try.prog) w 30 64 i _ Try.underlying30 h1 h2 .i64 .i64 n n (by omega) (by omega) (by rw [h4]; omega) (by omega)
  rw [h3] at hr
  simpa [blankCells, Value.cells] using hr
theorem blank_get (n k : Nat) (hk : k < n) : (blankCells n).toList[k * 3]? = some (.int .i64 0) ∧ (blankCells n).toList[k * 3 + 1]? = some (.int .i64 0) ∧ (blankCells n).toList[k * 3 + 2]? = some (.slice none 0 0) := by
  have hs : (blankCells n).size = n * 3 := by simp [blankCells, madeCells]
  have hg : ∀ (j r : Nat), j < n * 3 → j % 3 = r → (blankCells n).toList[j]? = some ((#[.int .i64 0, .int .i64 0, .slice none 0 0] : Array Value)[r]!) := by
    intro j r hj hr
    rw [← hr, blankCells, madeCells, Array.toList_map, Array.toList_range, List.getElem?_map, List.getElem?_range hj]
    rfl
  exact ⟨hg _ 0 (by omega) (by omega), hg _ 1 (by omega) (by omega), hg _ 2 (by omega) (by omega)⟩
theorem OwnH.made (w : World) (n : Nat) (hn : n ≤ 1048576) : OwnH (w.alloc (.cells (blankCells n) 64)) w.heap.size (.slice (some ⟨w.heap.size, 0, none⟩) n n) (List.replicate n blankH) (List.replicate n (.slice none 0 0)) := by
  have hs : (blankCells n).size = n * 3 := by simp [blankCells, madeCells]
  have hg : ∀ {α : Type} {k : Nat} {a b : α}, (List.replicate n a)[k]? = some b → k < n ∧ b = a := by
    intro α k a b h
    rw [List.getElem?_replicate] at h
    split at h
    · injection h with h; exact ⟨by assumption, h.symm⟩
    · cases h
  refine ⟨by simp, ⟨(blankCells n).toList, ⟨by simp [hs], .inr ⟨w.heap.size, n, blankCells n, by simp, Nat.le_refl _, heap_alloc_new w _, by simp, by unfold maxLen; omega, hs, by rw [List.length_replicate]; exact List.take_of_length_le (by simp [hs])⟩⟩, fun k h u hh hu => ?_⟩, fun k h u hh hu => ?_, fun k u g hu e => ?_, fun i j u u' g hu hu' e e' => ?_, fun h hh => ?_⟩
  · obtain ⟨hk, rfl⟩ := hg hh
    obtain ⟨_, rfl⟩ := hg hu
    exact blank_get n k hk
  · obtain ⟨hk, rfl⟩ := hg hh
    obtain ⟨_, rfl⟩ := hg hu
    exact OwnV.nil_
  · obtain ⟨_, rfl⟩ := hg hu
    cases e
  · obtain ⟨_, rfl⟩ := hg hu
    cases e
  · rw [List.eq_of_mem_replicate hh]
    exact ⟨⟨by decide, by decide⟩, ⟨by decide, by decide⟩⟩

set_option maxHeartbeats 400000 in
theorem toHunkS_any (a : Option Addr) (n c : Nat) (l : List Hk) (w : World) (hl : Hks w a n l) (hn : l.length + totalH l ≤ 1048576) :
    Calls Try.prog 12 #[.slice a n c] w fun e w' => e = .returned (.slice (some ⟨w.heap.size, 0, none⟩) n n) ∧ (∃ vs, OwnH w' w.heap.size (.slice (some ⟨w.heap.size, 0, none⟩) n n) l vs) ∧ Below w.heap.size w w' := by
  have HL := Lib.hid hl.len
  have hn1 : n ≤ 1048576 := by rw [← hl.len]; omega
  have hmk := make_hks n hn1
  have HN := Lib.hid hn
  clear hn
  go_enter Try.func12, Try.ntmps12
  go_wp2
  go_loopw [4] (fun i w' => ∃ k : Nat, i = .int .i64 k ∧ k ≤ n ∧ (∃ vs, OwnH w' w.heap.size (.slice (some ⟨w.heap.size, 0, none⟩) n n) (fillH l k) vs) ∧ Below w.heap.size w w') (fun i _ => n - (intOf i).toNat)
  case atStart =>
    refine ⟨0, rfl, by omega, ?_, (Below.refl _ _).alloc (Nat.le_refl _) _⟩
    rw [fillH_zero, HL.out]
    exact ⟨_, OwnH.made w n hn1⟩
  case round =>
    obtain ⟨k, rfl, hk, ⟨vs, ho⟩, hb⟩ := hrel
    by_cases hlt : k < n
    · obtain ⟨b, off, A, m, c', x, rfl, hx, c0, c1, c2, hs, hmc, i0, i1⟩ := (hl.below hb).at_ hlt
      have HX := Lib.hid hx
      have hm : m ≤ 1048576 := by have := totalH_mem (List.mem_of_getElem? hx); have := HN.out; have := hs.len; omega
      clear hx
      go_wp2_with fail
      refine (toHunk_any A m c' x _ hs hm ⟨i0, i1⟩).mono ?_
      rintro e w1 ⟨g, hg1, hg2, rfl, o1, b1⟩
      have ho1 := ho.below b1
      have hold : ∀ g', Blk (.slice (some ⟨w.heap.size, 0, none⟩) n n) vs g' → g' < wr.heap.size := fun g' e => (ho.lt e).2
      obtain ⟨g0, x0, a2, m2, c2', hg0, hb0, hl0, hx0, hu0, hmc0, d0, d1, d2, ho0, j0, j1, hfz⟩ := ho1.at_ hlt
      injection hg0 with hg0
      injection hg0 with hg0
      subst hg0
      have hput := ho1.put hlt x ⟨i0, i1⟩ (o1.more (show w.heap.size ≤ wr.heap.size from hb.size)) (fun g' e e2 => by have := hold g' e2; injection e with e; simp at e; omega)
      clear hx0 hu0
      go_wp2
      go_roundw
      case rel =>
        refine ⟨k + 1, by go_num, by omega, ⟨_, by rw [← fillH_set HX.out]; exact hput⟩, ?_⟩
        exact (((hb.next b1).setCell (Nat.le_refl _) _).setCell (Nat.le_refl _) _).setCell (Nat.le_refl _) _
      case measure => simp [intOf]; omega
    · have hf := Lib.hid (fillH_all l (k := k) (by rw [HL.out]; omega))
      go_wp2
      go_ret
      exact ⟨rfl, ⟨vs, by rw [hf.out] at ho; exact ho⟩, hb⟩

theorem eqHunk_any (A B : Option Addr) (m n c d : Nat) (x y : Hk) (w : World) (hx : Strs w A m x.new) (hy : Strs w B n y.new) :
    Calls Try.prog 45 #[.agg #[.int .i64 x.at_, .int .i64 x.gone, .slice A m c], .agg #[.int .i64 y.at_, .int .i64 y.gone, .slice B n d]] w fun e w' => e = .returned (.bool (eqH x y)) ∧ Below w.heap.size w w' := by
  have hb2 : Below w.heap.size w ((w.alloc (.cells #[.int .i64 x.at_, .int .i64 x.gone, .slice A m c] 64)).alloc (.cells #[.int .i64 y.at_, .int .i64 y.gone, .slice B n d] 64)) := (below_alloc w _).next (below_alloc _ _)
  by_cases h1 : x.at_ = y.at_
  · have q1 : (x.at_ != y.at_) = false := by simp [h1]
    by_cases h2 : x.gone = y.gone
    · have q2 : (x.gone != y.gone) = false := by simp [h2]
      have hf := Lib.hid (show eqH x y = eqT x.new y.new by simp [eqH, h1, h2])
      clear h1 h2
      go_enter Try.func45, Try.ntmps45
      go_wp2_with fail
      refine (eqStringS_any A B m n c d x.new y.new _ (hx.below hb2) (hy.below hb2)).mono ?_
      rintro e w1 ⟨rfl, d1⟩
      have b1 := hb2.next d1.below
      cases hq : eqT x.new y.new
      all_goals
        go_wp2
        go_ret
        exact ⟨ret_bool (by rw [hf.out, hq]), b1⟩
    · have q2 : (x.gone != y.gone) = true := by simp [h2]
      have hf := Lib.hid (show eqH x y = false by simp [eqH, h2])
      clear h1 h2
      go_enter Try.func45, Try.ntmps45
      go_wp2
      go_ret
      exact ⟨ret_bool hf.out.symm, hb2⟩
  · have q1 : (x.at_ != y.at_) = true := by simp [h1]
    have hf := Lib.hid (show eqH x y = false by simp [eqH, h1])
    clear h1
    go_enter Try.func45, Try.ntmps45
    go_wp2
    go_ret
    exact ⟨ret_bool hf.out.symm, hb2⟩

theorem eqH_step {l r : List Hk} {k : Nat} {s t : Hk} (H : ∀ j s t, j < k → l[j]? = some s → r[j]? = some t → eqH s t = true) (hs : l[k]? = some s) (ht : r[k]? = some t) (h : eqH s t = true) :
    ∀ j s t, j < k + 1 → l[j]? = some s → r[j]? = some t → eqH s t = true := by
  intro j s' t' hj hs' ht'
  by_cases e : j = k
  · subst e; rw [hs] at hs'; rw [ht] at ht'; injection hs' with hs'; injection ht' with ht'; rw [← hs', ← ht', h]
  · exact H j s' t' (by omega) hs' ht'

set_option maxHeartbeats 1000000 in
theorem eqHunkS_any (a b : Option Addr) (n m c d : Nat) (l r : List Hk) (w : World) (hl : Hks w a n l) (hr : Hks w b m r) :
    Calls Try.prog 16 #[.slice a n c, .slice b m d] w fun e w' => e = .returned (.bool (eqHS l r)) ∧ Below w.heap.size w w' := by
  have HL := Lib.hid hl.len
  have HR := Lib.hid hr.len
  have hlim := hl.lim
  unfold maxLen at hlim
  by_cases hnm : n = m
  · subst hnm
    have hq : ((n : Int) != (n : Int)) = false := by simp
    go_enter Try.func16, Try.ntmps16
    go_wp2
    go_loopw [5] (fun i w' => ∃ k : Nat, i = .int .i64 k ∧ k ≤ n ∧ Hid (∀ j s t, j < k → l[j]? = some s → r[j]? = some t → eqH s t = true) ∧ Below w.heap.size w w') (fun i _ => n - (intOf i).toNat)
    case atStart => exact ⟨0, rfl, by omega, fun j s t h => by omega, Below.refl _ _⟩
    case round =>
      obtain ⟨k, rfl, hk, H, hb⟩ := hrel
      by_cases hlt : k < n
      · obtain ⟨b1, off1, A1, m1, c1, x, rfl, hx, d0, d1, d2, hs1, _, _, _⟩ := (hl.below hb).at_ hlt
        obtain ⟨b2, off2, A2, m2, c2, y, rfl, hy, e0, e1, e2, hs2, _, _, _⟩ := (hr.below hb).at_ hlt
        have HX := Lib.hid hx
        have HY := Lib.hid hy
        clear hx hy
        have hi0 : (0 : Int) ≤ (k : Int) := by omega
        have hi1 : (k : Int) < (n : Int) := by omega
        go_wp2
        go_region_held3 (fun w' => w'.cell? ⟨b1, off1 + k * 3, none⟩ = some (.int .i64 x.at_) ∧ w'.cell? ⟨b1, off1 + k * 3 + 1, none⟩ = some (.int .i64 x.gone) ∧ w'.cell? ⟨b1, off1 + k * 3 + 2, none⟩ = some (.slice A1 m1 c1) ∧ w'.cell? ⟨b2, off2 + k * 3, none⟩ = some (.int .i64 y.at_) ∧ w'.cell? ⟨b2, off2 + k * 3 + 1, none⟩ = some (.int .i64 y.gone) ∧ w'.cell? ⟨b2, off2 + k * 3 + 2, none⟩ = some (.slice A2 m2 c2)) (first | exact ⟨d0, d1, d2, e0, e1, e2⟩ | exact ⟨cell_keep q1 d0, cell_keep q1 d1, cell_keep q1 d2, cell_keep q1 e0, cell_keep q1 e1, cell_keep q1 e2⟩ | go_keep)
          (first | (go_at_call 45; refine (eqHunk_any A1 A2 m1 m2 c1 c2 x y _ (hs1.below (Below.refl _ _).drew) (hs2.below (Below.refl _ _).drew)).mono ?_; rintro e w1 ⟨rfl, q1⟩))
        have hbq := hb.drew.next q1
        cases hq2 : eqH x y
        · have hf := Lib.hid (eqHS_at HX.out HY.out hq2)
          go_wp2
          go_ret
          exact ⟨ret_bool hf.out.symm, hbq⟩
        · have HST := Lib.hid hq2
          go_wp2
          go_roundw
          case rel => exact ⟨k + 1, by go_num, by omega, eqH_step H.out HX.out HY.out HST.out, hbq⟩
          case measure => simp [intOf]; omega
      · have hf := Lib.hid (eqHS_all (fun j s t h1 h2 => H.out j s t (by have := (List.getElem?_eq_some_iff.1 h1).1; have := HL.out; omega) h1 h2) (HL.out.trans HR.out.symm))
        go_wp2
        go_ret
        exact ⟨ret_bool hf.out.symm, hb⟩
  · have hq : ((n : Int) != (m : Int)) = true := by simp; omega
    have hf := Lib.hid (eqHS_len (l := l) (r := r) (by rw [HL.out, HR.out]; exact hnm))
    go_enter Try.func16, Try.ntmps16
    go_wp2
    go_ret
    exact ⟨ret_bool hf.out.symm, Below.refl _ _⟩

theorem nat_ok {k : Nat} (h : k ≤ 33554432) : i64ok (k : Int) := ⟨by omega, by omega⟩
theorem markHk_new (k : Nat) (x : Hk) : (markHk k x).new = marks (k + 2) x.new.length := rfl

set_option maxHeartbeats 1000000 in
theorem markHunkS_any (A : Option Addr) (n cap base k0 : Nat) (l : List Hk) (vs : List Value) (w : World) (ho : OwnH w base (.slice A n cap) l vs) (hn : l.length + totalH l ≤ 1048576) (hk : k0 + 2 * (l.length + totalH l) ≤ 3145728) :
    Calls Try.prog 18 #[.slice A n cap, .int .i64 k0] w fun e w' => e = .returned (.int .i64 ((endH k0 l : Nat) : Int)) ∧ OwnH w' base (.slice A n cap) (marksH k0 l) vs ∧ Wrote (Blk (.slice A n cap) vs) w w' := by
  have HL := Lib.hid ho.hks.len
  have HE := Lib.hid (fun i => endH_take_le l i k0)
  have HN := Lib.hid hn
  have HK := Lib.hid hk
  have hn1 : n ≤ 1048576 := by rw [← HL.out]; omega
  clear hn hk
  go_enter Try.func18, Try.ntmps18
  go_wp2
  go_loopw [1, 5] (fun q i w' => ∃ j K : Nat, i = .int .i64 j ∧ q = .int .i64 (K : Int) ∧ Hid (K = endH k0 (l.take j)) ∧ j ≤ n ∧ OwnH w' base (.slice A n cap) (mkTo l k0 j) vs ∧ Wrote (Blk (.slice A n cap) vs) w w') (fun _ i _ => n - (intOf i).toNat)
  case atStart => exact ⟨0, k0, rfl, rfl, rfl, by omega, by rw [mkTo_zero]; exact ho, Wrote.refl _ _⟩
  case round =>
    obtain ⟨j, K, rfl, rfl, HKj, hj, h1, h2⟩ := hrel
    by_cases hlt : j < n
    · obtain ⟨g, x, a2, m, c2, rfl, hb0, hg0, hx, hu, hmc, c0, c1, c3, ho0, i0, i1, hfz⟩ := h1.at_ hlt
      have hlj : l[j]? = some x := by
        obtain ⟨y, hy⟩ : ∃ y, l[j]? = some y := ⟨_, List.getElem?_eq_getElem (show j < l.length by rw [HL.out]; exact hlt)⟩
        rw [mkTo_get k0 hy] at hx
        rw [hy, hx]
      have hKle : K ≤ 3145728 := by have := HE.out j; have := HK.out; have := HKj.out; omega
      have hKm : K + 2 + m ≤ 3145728 := by
        have h3 := HE.out (j + 1)
        rw [take_snoc hlj, endH_snoc, ← HKj.out, ho0.strs.len] at h3
        have := HK.out
        omega
      have hm : m ≤ 1048576 := by have := totalH_mem (List.mem_of_getElem? hlj); have := HN.out; have := ho0.strs.len; omega
      have HJ := Lib.hid hlj
      have HU := Lib.hid hu
      have HXX := Lib.hid hx
      clear hlj hu hx
      have s1 := h1.setAt HXX.out (K : Int) (nat_ok (by omega))
      have s2 := s1.setGone (set_eq (by rw [mkTo_len, HL.out]; exact hlt)) ((K : Int) + 1) ⟨by omega, by omega⟩
      rw [List.set_set] at s2
      have ho2 := s2.news j _ _ (set_eq (by rw [mkTo_len, HL.out]; exact hlt)) HU.out
      have hap : ∀ g', (Value.slice a2 m c2).ownBlock = some g' → g' ≠ g := fun g' e e2 => h1.apart j _ g' HU.out e (by rw [e2]; rfl)
      have HAP := Lib.hid hap
      have HS1 := Lib.hid s1
      have HS2 := Lib.hid s2
      have HO2 := Lib.hid ho2
      clear hap s1 s2 ho2
      go_wp2_with fail
      rw [show ((K : Int) + 1 + 1) = ((K + 2 : Nat) : Int) from by omega]
      refine (markStringS_any a2 m c2 base (K + 2) x.new _ HO2.out hm (by omega)).mono ?_
      rintro e w1 ⟨rfl, o1, g1⟩
      have s3 := HS2.out.renew (set_eq (by rw [mkTo_len, HL.out]; exact hlt)) HU.out g1 o1
      rw [List.set_set] at s3
      have hm2 : m = x.new.length := ho0.strs.len.symm
      have s4 : OwnH w1 base (.slice (some ⟨g, 0, none⟩) n cap) (mkTo l k0 (j + 1)) vs := by
        rw [← mkTo_set k0 HJ.out, ← HKj.out]
        unfold markHk
        rw [← hm2]
        exact s3
      have hwr : Wrote (Blk (.slice (some ⟨g, 0, none⟩) n cap) vs) w w1 :=
        ((h2.trans (Wrote.set (fun i => i = g) wr _ _ rfl) (fun i _ e => .inl (by rw [e]; rfl))).trans (Wrote.set (fun i => i = g) _ _ _ rfl) (fun i _ e => .inl (by rw [e]; rfl))).trans (Wrote.of_grown (S := fun i => (Value.slice a2 m c2).ownBlock = some i) g1 (fun _ e => e)) (fun i _ e => .inr ⟨j, _, HU.out, e⟩)
      have HK2 := Lib.hid (show K + 2 + m = endH k0 (l.take (j + 1)) by rw [take_snoc HJ.out, endH_snoc, ← HKj.out, ← hm2])
      clear s3 hm2
      go_wp2
      go_roundw
      case rel => exact ⟨j + 1, K + 2 + m, by go_num, rfl, HK2.out, by omega, s4, hwr⟩
      case measure => simp [intOf]; omega
    · have hf := Lib.hid (mkTo_all l k0 (i := j) (by rw [HL.out]; omega))
      have hf2 : K = endH k0 l := by rw [HKj.out, List.take_of_length_le (by rw [HL.out]; omega)]
      have HF2 := Lib.hid hf2
      clear hf2
      go_wp2
      go_ret
      exact ⟨ret_int (by rw [HF2.out]), by rw [← hf.out]; exact h1, h2⟩

theorem szT_more (a : Option Addr) (n c : Nat) (l : List ByteArray) (left : Int) (w : World) (hl : Strs w a n l) (h0 : 0 ≤ left) (h1 : left ≤ 1048576) (h : (l.length : Int) + total l ≤ left) :
    Calls Try.prog 8 #[.slice a n c, .int .i64 left] w fun e w' => ∃ r : Int, 0 ≤ r ∧ r ≤ 1048576 ∧ Hid (r + l.length + total l = left) ∧ e = .returned (.int .i64 r) ∧ w = w' := by
  have e : szS l left = left - l.length - total l := if_neg (by omega)
  refine (szStringS_any a n c l left w hl h0 h1).mono fun e' w' ⟨h1, h2⟩ => ⟨szS l left, by omega, by omega, show _ = _ by omega, h1, h2⟩
theorem szH_more (a : Option Addr) (n c : Nat) (l : List Hk) (left : Int) (w : World) (hl : Hks w a n l) (h0 : 0 ≤ left) (h1 : left ≤ 1048576) (h : (l.length : Int) + totalH l ≤ left) :
    Calls Try.prog 9 #[.slice a n c, .int .i64 left] w fun e w' => ∃ r : Int, 0 ≤ r ∧ r ≤ 1048576 ∧ Hid (r + l.length + totalH l = left) ∧ e = .returned (.int .i64 r) ∧ Below w.heap.size w w' := by
  have e : szHS l left = left - l.length - totalH l := if_neg (by omega)
  refine (szHunkS_any a n c l left w hl h0 h1).mono fun e' w' ⟨h1, h2⟩ => ⟨szHS l left, by omega, by omega, show _ = _ by omega, h1, h2⟩
theorem markStrW_any (A : Option Addr) (n cap base k0 : Nat) (l : List ByteArray) (w : World) (ho : OwnV w base (.slice A n cap) l) (hn : n ≤ 1048576) (hk : k0 ≤ 16777216) :
    Calls Try.prog 17 #[.slice A n cap, .int .i64 k0] w fun e w' => e = .returned (.int .i64 ((k0 + n : Nat) : Int)) ∧ OwnV w' base (.slice A n cap) (marks k0 n) ∧ Wrote (fun g => (Value.slice A n cap).ownBlock = some g) w w' :=
  (markStringS_any A n cap base k0 l w ho hn hk).mono fun e w' ⟨h1, h2, h3⟩ => ⟨h1, h2, Wrote.of_grown h3 (fun _ e => e)⟩
theorem Wrote.below' {S : Nat → Prop} {w w' a : World} (hb : Below a.heap.size a w) (h : Wrote S w w') (hs : ∀ k, S k → a.heap.size ≤ k) : Below a.heap.size a w' := Wrote.below hb h hb.size hs

end Go.Proofs.Ytgohaemmnpifbaa
