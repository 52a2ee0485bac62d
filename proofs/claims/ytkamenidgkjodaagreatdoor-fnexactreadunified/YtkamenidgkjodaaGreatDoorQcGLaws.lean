/-
  The laws' own small functions on rows: counted, copied, compared, marked, held.
  The laws' own small functions on groups: counted, copied, compared, marked, held.
  The laws' own small functions on groups: marked, held.
-/
import Derived.Test.YtkamenidgkjodaaGreatDoorQcGMem
import Derived.Test.YtkamenidgkjodaaGreatDoorQcMemT
import Derived.Test.YtkamenidgkjodaaGreatDoorQcHMems
set_option linter.unusedSimpArgs false
set_option linter.unusedVariables false
namespace Go.Proofs.YtkamenidgkjodaaGreatDoor
open Go.RowKit Go.ChangeShapes Go.WideShapes M

theorem beq_bytes_true {s t : ByteArray} (h : s = t) : (s.toList == t.toList) = true := by rw [h]; exact beq_same t

theorem eqRow_any (x y : Rw) (w : World) :
    Calls Tryz.prog 146 #[.agg #[.int .i64 x.kind, .string x.line], .agg #[.int .i64 y.kind, .string y.line]] w fun e w' => e = .returned (.bool (eqRw x y)) ∧ Below w.heap.size w w' := by
  have hb2 : Below w.heap.size w ((w.alloc (.cells #[.int .i64 x.kind, .string x.line] 62)).alloc (.cells #[.int .i64 y.kind, .string y.line] 62)) := (below_alloc w _).next (below_alloc _ _)
  by_cases h1 : x.kind = y.kind
  · have q1 : (x.kind != y.kind) = false := by simp [h1]
    by_cases h2 : x.line = y.line
    · have q2 := beq_bytes_true h2
      have hf := Lib.hid (show eqRw x y = true by simp [eqRw, h1, h2])
      clear h1 h2
      go_enter Tryz.func146, Tryz.ntmps146
      go_wp2
      go_ret
      exact ⟨ret_bool hf.out.symm, hb2⟩
    · have q2 := beq_other h2
      have hf := Lib.hid (show eqRw x y = false by simp [eqRw, h2])
      clear h1 h2
      go_enter Tryz.func146, Tryz.ntmps146
      go_wp2
      go_ret
      exact ⟨ret_bool hf.out.symm, hb2⟩
  · have q1 : (x.kind != y.kind) = true := by simp [h1]
    have hf := Lib.hid (show eqRw x y = false by simp [eqRw, h1])
    clear h1
    go_enter Tryz.func146, Tryz.ntmps146
    go_wp2
    go_ret
    exact ⟨ret_bool hf.out.symm, hb2⟩

set_option maxHeartbeats 1000000 in
theorem eqRowS_any (a b : Option Addr) (n m c d : Nat) (l r : List Rw) (w : World) (hl : Rws w a n l) (hr : Rws w b m r) :
    Calls Tryz.prog 111 #[.slice a n c, .slice b m d] w fun e w' => e = .returned (.bool (eqRS l r)) ∧ Below w.heap.size w w' := by
  have HL := Lib.hid hl.len
  have HR := Lib.hid hr.len
  have hlim := hl.lim
  unfold maxLen at hlim
  by_cases hnm : n = m
  · subst hnm
    have hq : ((n : Int) != (n : Int)) = false := by simp
    go_enter Tryz.func111, Tryz.ntmps111
    go_wp2
    go_loopw [5] (fun i w' => ∃ k : Nat, i = .int .i64 k ∧ k ≤ n ∧ Hid (∀ (j : Nat) s t, j < k → l[j]? = some s → r[j]? = some t → eqRw s t = true) ∧ Below w.heap.size w w') (fun i _ => n - (intOf i).toNat)
    case atStart => exact ⟨0, rfl, by omega, fun j s t h => by omega, Below.refl _ _⟩
    case round =>
      obtain ⟨k, rfl, hk, H, hb⟩ := hrel
      by_cases hlt : k < n
      · obtain ⟨b1, off1, x, rfl, hx, d0, d1, _⟩ := (hl.below hb).at_ hlt
        obtain ⟨b2, off2, y, rfl, hy, e0, e1, _⟩ := (hr.below hb).at_ hlt
        have HX := Lib.hid hx
        have HY := Lib.hid hy
        clear hx hy
        have hi0 : (0 : Int) ≤ (k : Int) := by omega
        have hi1 : (k : Int) < (n : Int) := by omega
        go_wp2
        go_region_held3 (fun w' => w'.cell? ⟨b1, off1 + k * 2, none⟩ = some (.int .i64 x.kind) ∧ w'.cell? ⟨b1, off1 + k * 2 + 1, none⟩ = some (.string x.line) ∧ w'.cell? ⟨b2, off2 + k * 2, none⟩ = some (.int .i64 y.kind) ∧ w'.cell? ⟨b2, off2 + k * 2 + 1, none⟩ = some (.string y.line)) (first | exact ⟨d0, d1, e0, e1⟩ | exact ⟨cell_keep q1 d0, cell_keep q1 d1, cell_keep q1 e0, cell_keep q1 e1⟩ | go_keep)
          (first | (go_at_call 146; refine (eqRow_any x y _).mono ?_; rintro e w1 ⟨rfl, q1⟩) | fail)
        have hbq := hb.drew.next q1
        cases hq2 : eqRw x y
        · have hf := Lib.hid (eqL_at eqRw_iff HX.out HY.out hq2)
          go_wp2
          go_ret
          exact ⟨ret_bool hf.out.symm, hbq⟩
        · have HST := Lib.hid hq2
          go_wp2
          go_roundw
          case rel => exact ⟨k + 1, by go_num, by omega, eqL_step H.out HX.out HY.out HST.out, hbq⟩
          case measure => simp [intOf]; omega
      · have hf := Lib.hid (eqL_all eqRw_iff (fun j s t h1 h2 => H.out j s t (by have := (List.getElem?_eq_some_iff.1 h1).1; have := HL.out; omega) h1 h2) (HL.out.trans HR.out.symm))
        go_wp2
        go_ret
        exact ⟨ret_bool hf.out.symm, hb⟩
  · have hq : ((n : Int) != (m : Int)) = true := by simp; omega
    have hf := Lib.hid (eqL_len eqRw_iff (l := l) (r := r) (by rw [HL.out, HR.out]; exact hnm))
    go_enter Tryz.func111, Tryz.ntmps111
    go_wp2
    go_ret
    exact ⟨ret_bool hf.out.symm, Below.refl _ _⟩

/-! Rows are copied. -/
theorem rw_info : (Tryz.prog.info? 62).map (fun i => (i.zero, i.size, i.bytes)) = some (some (.agg #[.int .i64 0, .string ByteArray.empty]), 2, 24) := by kernel_rfl

end Go.Proofs.YtkamenidgkjodaaGreatDoor

namespace Go.Proofs.YtkamenidgkjodaaGreatDoor
open Go.RowKit Go.ChangeShapes Go.WideShapes M

/-! Rows are marked. -/
section
variable {w w' : World} {base g n cap k : Nat} {l : List Rw} {x : Rw}
theorem OwnRw.setKind (h : OwnRw w base (.slice (some ⟨g, 0, none⟩) n cap) l) (hx : l[k]? = some x) (i : Int) (hi : i64ok i) :
    OwnRw (w.setCell ⟨g, k * 2, none⟩ (.int .i64 i)) base (.slice (some ⟨g, 0, none⟩) n cap) (l.set k ⟨i, x.line⟩) := by
  have hok := h.ok x (List.mem_of_getElem? hx)
  have hr : (l.map rwRow)[k]? = some (rwRow x) := by rw [List.getElem?_map, hx]; rfl
  have s0 := h.own.set (u := .int .i64 i) hr (j := 0) rfl rfl
  refine ⟨?_, fun y hy => ?_⟩
  · have e : (l.set k ⟨i, x.line⟩).map rwRow = (l.map rwRow).set k (rwRow ⟨i, x.line⟩) := by rw [List.map_set]
    rw [e]
    exact s0
  · rcases List.mem_or_eq_of_mem_set hy with h5 | h5
    · exact h.ok y h5
    · rw [h5]; exact ⟨hi, hok.line⟩
theorem OwnRw.setLine (h : OwnRw w base (.slice (some ⟨g, 0, none⟩) n cap) l) (hx : l[k]? = some x) (s : ByteArray) (hs : s.size ≤ maxLen) :
    OwnRw (w.setCell ⟨g, k * 2 + 1, none⟩ (.string s)) base (.slice (some ⟨g, 0, none⟩) n cap) (l.set k ⟨x.kind, s⟩) := by
  have hok := h.ok x (List.mem_of_getElem? hx)
  have hr : (l.map rwRow)[k]? = some (rwRow x) := by rw [List.getElem?_map, hx]; rfl
  have s0 := h.own.set (u := .string s) hr (j := 1) rfl rfl
  refine ⟨?_, fun y hy => ?_⟩
  · have e : (l.set k ⟨x.kind, s⟩).map rwRow = (l.map rwRow).set k (rwRow ⟨x.kind, s⟩) := by rw [List.map_set]
    rw [e]
    exact s0
  · rcases List.mem_or_eq_of_mem_set hy with h5 | h5
    · exact h.ok y h5
    · rw [h5]; exact ⟨hok.kind, hs⟩
end

set_option maxHeartbeats 1000000 in
theorem markRowS_any (A : Option Addr) (n cap base k0 : Nat) (l : List Rw) (w : World) (ho : OwnRw w base (.slice A n cap) l) (hn : n ≤ 1048576) (hk : k0 + 2 * n ≤ 16777216) :
    Calls Tryz.prog 65 #[.slice A n cap, .int .i64 k0] w fun e w' => e = .returned (.int .i64 ((k0 + 2 * n : Nat) : Int)) ∧ OwnRw w' base (.slice A n cap) (marksR k0 n) ∧ Wrote (fun i => (Value.slice A n cap).ownBlock = some i) w w' := by
  have HL := Lib.hid ho.len_
  go_enter Tryz.func65, Tryz.ntmps65
  go_wp2
  go_loopw [1, 5] (fun q i w' => ∃ j K : Nat, i = .int .i64 j ∧ q = .int .i64 (K : Int) ∧ Hid (K = k0 + 2 * j) ∧ j ≤ n ∧ OwnRw w' base (.slice A n cap) (mkToR l k0 j) ∧ Wrote (fun i => (Value.slice A n cap).ownBlock = some i) w w') (fun _ i _ => n - (intOf i).toNat)
  case atStart => exact ⟨0, k0, rfl, rfl, rfl, by omega, by rw [mkToR_zero]; exact ho, Wrote.refl _ _⟩
  case round =>
    obtain ⟨j, K, rfl, rfl, HK, hj, h1, h2⟩ := hrel
    by_cases hlt : j < n
    · obtain ⟨g, x, rfl, hb0, hg0, hx, d0, d1, hok, hfz⟩ := h1.at_ hlt
      have hKle : K + 2 ≤ 16777216 := by have := HK.out; omega
      have s1 := h1.setKind hx (K : Int) (nat_ok (by omega))
      have hlj : l[j]? = some x := by
        obtain ⟨y, hy⟩ : ∃ y, l[j]? = some y := ⟨_, List.getElem?_eq_getElem (show j < l.length by rw [HL.out]; exact hlt)⟩
        rw [mkToR_get k0 hy] at hx
        rw [hy, hx]
      have HJ := Lib.hid hlj
      have HLX := Lib.hid (show ∀ y : Rw, ((mkToR l k0 j).set j y)[j]? = some y from fun y => set_eq (by rw [mkToR_len _ _ _ (by rw [HL.out]; exact hj), HL.out]; exact hlt))
      have hms := markT_size (K + 1)
      clear hx hlj
      go_wp2_with fail
      rw [show ((K : Int) + 1) = ((K + 1 : Nat) : Int) from by omega]
      refine (markText_any (K + 1) _ (by omega)).mono ?_
      rintro e w1 ⟨rfl, b1⟩
      have s2 := (s1.below b1).setLine (HLX.out _) (markT (K + 1)) (by unfold maxLen; omega)
      obtain ⟨g', x', hg', _, _, _, e0, e1, _, fz1⟩ := (s1.below b1).at_ hlt
      injection hg' with hg'
      injection hg' with hg'
      subst hg'
      rw [List.set_set] at s2
      have s3 : OwnRw (w1.setCell ⟨g, j * 2 + 1, none⟩ (.string (markT (K + 1)))) base (.slice (some ⟨g, 0, none⟩) n cap) (mkToR l k0 (j + 1)) := by
        rw [← mkToR_set k0 HJ.out, ← HK.out]; exact s2
      have hwr := Lib.hid (show Wrote (fun i => (Value.slice (some ⟨g, 0, none⟩) n cap).ownBlock = some i) w (w1.setCell ⟨g, j * 2 + 1, none⟩ (.string (markT (K + 1)))) from
        (((h2.trans (Wrote.set (fun i => (Value.slice (some ⟨g, 0, none⟩) n cap).ownBlock = some i) wr ⟨g, j * 2, none⟩ _ rfl) (fun _ _ e => e)).next b1).trans (Wrote.set (fun i => (Value.slice (some ⟨g, 0, none⟩) n cap).ownBlock = some i) _ ⟨g, j * 2 + 1, none⟩ _ rfl) (fun _ _ e => e)))
      clear s2 d0 d1 hfz
      go_wp2
      go_roundw
      case rel => exact ⟨j + 1, K + 2, by go_num, by go_num, by have := HK.out; show K + 2 = _; omega, by omega, s3, hwr.out⟩
      case measure => simp [intOf]; omega
    · obtain rfl : j = n := by omega
      have hf := Lib.hid (mkToR_all l k0 (i := j) (by rw [HL.out]; omega) (by rw [HL.out]; omega))
      have HF2 := Lib.hid HK.out
      go_wp2
      go_ret
      refine ⟨ret_int (by rw [HF2.out]), ?_, h2⟩
      have h3 := hf.out
      rw [HL.out] at h3
      rw [← h3]
      exact h1

set_option maxHeartbeats 1000000 in
theorem heldRowS_any (A : Option Addr) (n cap k0 : Nat) (w : World) (ho : Rws w A n (marksR k0 n)) (hn : n ≤ 1048576) (hk : k0 + 2 * n ≤ 16777216) :
    Calls Tryz.prog 66 #[.slice A n cap, .int .i64 k0] w fun e w' => e = .returned (.int .i64 ((k0 + 2 * n : Nat) : Int)) ∧ Below w.heap.size w w' := by
  go_enter Tryz.func66, Tryz.ntmps66
  go_wp2
  go_loopw [1, 5] (fun q i w' => ∃ j K : Nat, i = .int .i64 j ∧ q = .int .i64 (K : Int) ∧ Hid (K = k0 + 2 * j) ∧ j ≤ n ∧ Below w.heap.size w w') (fun _ i _ => n - (intOf i).toNat)
  case atStart => exact ⟨0, k0, rfl, rfl, rfl, by omega, Below.refl _ _⟩
  case round =>
    obtain ⟨j, K, rfl, rfl, HK, hj, hb⟩ := hrel
    by_cases hlt : j < n
    · obtain ⟨b, off, y, rfl, hy, d0, d1, hok⟩ := (ho.below hb).at_ hlt
      have hKle : K + 2 ≤ 16777216 := by have := HK.out; omega
      have hy2 : y = markRw K := by rw [marksR_get _ _ _ hlt, ← HK.out] at hy; injection hy with hy; exact hy.symm
      subst hy2
      clear hy
      have c0 : wr.cell? ⟨b, off + j * 2, none⟩ = some (.int .i64 (K : Int)) := d0
      have c1 : wr.cell? ⟨b, off + j * 2 + 1, none⟩ = some (.string (markT (K + 1))) := d1
      clear d0 d1 hok
      have hi0 : (0 : Int) ≤ (j : Int) := by omega
      have hi1 : (j : Int) < (n : Int) := by omega
      have hq0 : ((K : Int) != (K : Int)) = false := by simp
      have hbq := beq_same (markT (K + 1))
      go_wp2
      rw [show ((K : Int) + 1) = ((K + 1 : Nat) : Int) from by omega]
      go_region_held3 (fun w' => w'.cell? ⟨b, off + j * 2 + 1, none⟩ = some (.string (markT (K + 1)))) (first | exact c1 | exact cell_keep b1 c1 | go_keep)
        (first | (go_at_call 112; refine (markText_any (K + 1) _ (by omega)).mono ?_; rintro e w1 ⟨rfl, b1⟩) | fail)
      go_wp2
      go_roundw
      case rel => exact ⟨j + 1, K + 2, by go_num, by go_num, by have := HK.out; show K + 2 = _; omega, by omega, hb.drew.next b1⟩
      case measure => simp [intOf]; omega
    · obtain rfl : j = n := by omega
      have HF2 := Lib.hid HK.out
      go_wp2
      go_ret
      exact ⟨ret_int (by rw [HF2.out]), hb⟩

end Go.Proofs.YtkamenidgkjodaaGreatDoor

namespace Go.Proofs.YtkamenidgkjodaaGreatDoor
open Go.RowKit Go.ChangeShapes Go.WideShapes M

theorem eqGroup_any (A B : Option Addr) (m n c d : Nat) (x y : Gp) (w : World) (hx : Rws w A m x.rows) (hy : Rws w B n y.rows) :
    Calls Tryz.prog 64 #[.agg #[.int .i64 x.at_, .int .i64 x.to_, .slice A m c], .agg #[.int .i64 y.at_, .int .i64 y.to_, .slice B n d]] w fun e w' => e = .returned (.bool (eqGp x y)) ∧ Below w.heap.size w w' := by
  have hb2 : Below w.heap.size w ((w.alloc (.cells #[.int .i64 x.at_, .int .i64 x.to_, .slice A m c] 60)).alloc (.cells #[.int .i64 y.at_, .int .i64 y.to_, .slice B n d] 60)) := (below_alloc w _).next (below_alloc _ _)
  by_cases h1 : x.at_ = y.at_
  · have q1 : (x.at_ != y.at_) = false := by simp [h1]
    by_cases h2 : x.to_ = y.to_
    · have q2 : (x.to_ != y.to_) = false := by simp [h2]
      have hf := Lib.hid (show eqGp x y = eqRS x.rows y.rows by simp [eqGp, h1, h2])
      clear h1 h2
      go_enter Tryz.func64, Tryz.ntmps64
      go_wp2_with fail
      refine (eqRowS_any A B m n c d x.rows y.rows _ (hx.below hb2) (hy.below hb2)).mono ?_
      rintro e w1 ⟨rfl, d1⟩
      have b1 := hb2.next d1
      cases hq : eqRS x.rows y.rows
      all_goals
        go_wp2
        go_ret
        exact ⟨ret_bool (by rw [hf.out, hq]), b1⟩
    · have q2 : (x.to_ != y.to_) = true := by simp [h2]
      have hf := Lib.hid (show eqGp x y = false by simp [eqGp, h2])
      clear h1 h2
      go_enter Tryz.func64, Tryz.ntmps64
      go_wp2
      go_ret
      exact ⟨ret_bool hf.out.symm, hb2⟩
  · have q1 : (x.at_ != y.at_) = true := by simp [h1]
    have hf := Lib.hid (show eqGp x y = false by simp [eqGp, h1])
    clear h1
    go_enter Tryz.func64, Tryz.ntmps64
    go_wp2
    go_ret
    exact ⟨ret_bool hf.out.symm, hb2⟩

set_option maxHeartbeats 1000000 in
theorem eqGroupS_any (a b : Option Addr) (n m c d : Nat) (l r : List Gp) (w : World) (hl : Gps w a n l) (hr : Gps w b m r) :
    Calls Tryz.prog 26 #[.slice a n c, .slice b m d] w fun e w' => e = .returned (.bool (eqGS l r)) ∧ Below w.heap.size w w' := by
  have HL := Lib.hid hl.len
  have HR := Lib.hid hr.len
  have hlim := hl.lim
  unfold maxLen at hlim
  by_cases hnm : n = m
  · subst hnm
    have hq : ((n : Int) != (n : Int)) = false := by simp
    go_enter Tryz.func26, Tryz.ntmps26
    go_wp2
    go_loopw [5] (fun i w' => ∃ k : Nat, i = .int .i64 k ∧ k ≤ n ∧ Hid (∀ (j : Nat) s t, j < k → l[j]? = some s → r[j]? = some t → eqGp s t = true) ∧ Below w.heap.size w w') (fun i _ => n - (intOf i).toNat)
    case atStart => exact ⟨0, rfl, by omega, fun j s t h => by omega, Below.refl _ _⟩
    case round =>
      obtain ⟨k, rfl, hk, H, hb⟩ := hrel
      by_cases hlt : k < n
      · obtain ⟨b1, off1, A1, m1, c1, x, rfl, hx, d0, d1, d2, hs1, _, _⟩ := (hl.below hb).at_ hlt
        obtain ⟨b2, off2, A2, m2, c2, y, rfl, hy, e0, e1, e2, hs2, _, _⟩ := (hr.below hb).at_ hlt
        have HX := Lib.hid hx
        have HY := Lib.hid hy
        clear hx hy
        have hi0 : (0 : Int) ≤ (k : Int) := by omega
        have hi1 : (k : Int) < (n : Int) := by omega
        go_wp2
        go_region_held3 (fun w' => w'.cell? ⟨b1, off1 + k * 3, none⟩ = some (.int .i64 x.at_) ∧ w'.cell? ⟨b1, off1 + k * 3 + 1, none⟩ = some (.int .i64 x.to_) ∧ w'.cell? ⟨b1, off1 + k * 3 + 2, none⟩ = some (.slice A1 m1 c1) ∧ w'.cell? ⟨b2, off2 + k * 3, none⟩ = some (.int .i64 y.at_) ∧ w'.cell? ⟨b2, off2 + k * 3 + 1, none⟩ = some (.int .i64 y.to_) ∧ w'.cell? ⟨b2, off2 + k * 3 + 2, none⟩ = some (.slice A2 m2 c2)) (first | exact ⟨d0, d1, d2, e0, e1, e2⟩ | exact ⟨cell_keep q1 d0, cell_keep q1 d1, cell_keep q1 d2, cell_keep q1 e0, cell_keep q1 e1, cell_keep q1 e2⟩ | go_keep)
          (first | (go_at_call 64; refine (eqGroup_any A1 A2 m1 m2 c1 c2 x y _ (hs1.below (Below.refl _ _).drew) (hs2.below (Below.refl _ _).drew)).mono ?_; rintro e w1 ⟨rfl, q1⟩) | fail)
        have hbq := hb.drew.next q1
        cases hq2 : eqGp x y
        · have hf := Lib.hid (eqL_at eqGp_iff HX.out HY.out hq2)
          go_wp2
          go_ret
          exact ⟨ret_bool hf.out.symm, hbq⟩
        · have HST := Lib.hid hq2
          go_wp2
          go_roundw
          case rel => exact ⟨k + 1, by go_num, by omega, eqL_step H.out HX.out HY.out HST.out, hbq⟩
          case measure => simp [intOf]; omega
      · have hf := Lib.hid (eqL_all eqGp_iff (fun j s t h1 h2 => H.out j s t (by have := (List.getElem?_eq_some_iff.1 h1).1; have := HL.out; omega) h1 h2) (HL.out.trans HR.out.symm))
        go_wp2
        go_ret
        exact ⟨ret_bool hf.out.symm, hb⟩
  · have hq : ((n : Int) != (m : Int)) = true := by simp; omega
    have hf := Lib.hid (eqL_len eqGp_iff (l := l) (r := r) (by rw [HL.out, HR.out]; exact hnm))
    go_enter Tryz.func26, Tryz.ntmps26
    go_wp2
    go_ret
    exact ⟨ret_bool hf.out.symm, Below.refl _ _⟩

/-! Groups are copied. -/
theorem OwnRw.setBelow {w : World} {base : Nat} {v : Value} {l : List Rw} {a : Addr} (h : OwnRw w base v l) (hlt : a.block < base) (u : Value) : OwnRw (w.setCell a u) base v l :=
  h.wrote (Wrote.set (fun i => i = a.block) w a u rfl) (fun g e e2 => by have := (h.lt e).1; omega)

theorem gp_info : (Tryz.prog.info? 60).map (fun i => (i.zero, i.size, i.bytes)) = some (some (.agg #[.int .i64 0, .int .i64 0, .slice none 0 0]), 3, 40) := by kernel_rfl

end Go.Proofs.YtkamenidgkjodaaGreatDoor

namespace Go.Proofs.YtkamenidgkjodaaGreatDoor
open Go.RowKit Go.ChangeShapes Go.WideShapes M

section
variable {w w' : World} {base g n cap k : Nat} {p : List Gp} {rows : List (List D)} {x : Gp} {u : Value}
theorem OwnGp.reset (h : OwnGp w base (.slice (some ⟨g, 0, none⟩) n cap) p rows) (hx : p[k]? = some x) {r' : List D} (ho : OwnR w' base (.slice (some ⟨g, 0, none⟩) n cap) 60 3 (rows.set k r')) (y : Gp) (hr : ∃ u, r' = gpRow y u) (hy : GpOk y) :
    OwnGp w' base (.slice (some ⟨g, 0, none⟩) n cap) (p.set k y) (rows.set k r') := by
  refine ⟨by simp [h.len], ho, fun j q z hq hz => ?_, fun z hz => ?_⟩
  · rcases set_get hq with ⟨rfl, rfl⟩ | ⟨hne, hq⟩
    · rcases set_get hz with ⟨_, rfl⟩ | ⟨hne, _⟩
      · exact hr
      · exact absurd rfl hne
    · rcases set_get hz with ⟨e, _⟩ | ⟨_, hz⟩
      · exact absurd e hne
      · exact h.row j q z hq hz
  · rcases List.mem_or_eq_of_mem_set hz with h5 | h5
    · exact h.ok z h5
    · rw [h5]; exact hy
theorem OwnGp.setAt (h : OwnGp w base (.slice (some ⟨g, 0, none⟩) n cap) p rows) (hx : p[k]? = some x) (hr : rows[k]? = some (gpRow x u)) (i : Int) (hi : i64ok i) :
    OwnGp (w.setCell ⟨g, k * 3, none⟩ (.int .i64 i)) base (.slice (some ⟨g, 0, none⟩) n cap) (p.set k { x with at_ := i }) (rows.set k (gpRow { x with at_ := i } u)) := by
  have hok := h.ok x (List.mem_of_getElem? hx)
  exact h.reset hx (h.own.set hr (j := 0) rfl (u := .int .i64 i) rfl) _ ⟨u, rfl⟩ ⟨hi, hok.to_, hok.rows⟩
theorem OwnGp.setTo (h : OwnGp w base (.slice (some ⟨g, 0, none⟩) n cap) p rows) (hx : p[k]? = some x) (hr : rows[k]? = some (gpRow x u)) (i : Int) (hi : i64ok i) :
    OwnGp (w.setCell ⟨g, k * 3 + 1, none⟩ (.int .i64 i)) base (.slice (some ⟨g, 0, none⟩) n cap) (p.set k { x with to_ := i }) (rows.set k (gpRow { x with to_ := i } u)) := by
  have hok := h.ok x (List.mem_of_getElem? hx)
  exact h.reset hx (h.own.set hr (j := 1) rfl (u := .int .i64 i) rfl) _ ⟨u, rfl⟩ ⟨hok.at_, hi, hok.rows⟩
/-- The rows of a group are written, in the block that they have. -/
theorem OwnGp.renewRows (h : OwnGp w base (.slice (some ⟨g, 0, none⟩) n cap) p rows) (hx : p[k]? = some x) (hr : rows[k]? = some (gpRow x u)) (hw : Wrote (fun i => u.ownBlock = some i) w w') {r : List Rw} (ho : OwnRw w' base u r) :
    OwnGp w' base (.slice (some ⟨g, 0, none⟩) n cap) (p.set k { x with rows := r }) (rows.set k (gpRow { x with rows := r } u)) := by
  have hok := h.ok x (List.mem_of_getElem? hx)
  refine h.reset hx (h.own.renew hr (j := 2) (d := rowsD u x.rows) (d' := rowsD u r) rfl (hw.mono (fun i _ e => by rw [rowsD_blocks]; simp [e])) ho.datum.own (by rw [rowsD_blocks, rowsD_blocks]) rfl) _ ⟨u, rfl⟩ ⟨hok.at_, hok.to_, ho.ok⟩
theorem OwnGp.blkRows (h : OwnGp w base (.slice (some ⟨g, 0, none⟩) n cap) p rows) (hr : rows[k]? = some (gpRow x u)) {i : Nat} (e : u.ownBlock = some i) : BlkR (.slice (some ⟨g, 0, none⟩) n cap) rows i :=
  BlkR.of_row hr h.own.wide (j := 2) rfl (by rw [rowsD_blocks]; simp [e])
theorem OwnGp.rowsAt (h : OwnGp w base (.slice (some ⟨g, 0, none⟩) n cap) p rows) (hx : p[k]? = some x) (hr : rows[k]? = some (gpRow x u)) : OwnRw w base u x.rows := D.own_rows (h.own.datum hr (j := 2) rfl) (h.ok x (List.mem_of_getElem? hx)).rows
end

theorem eqGS_refl (l : List Gp) : eqGS l l = true := eqL_refl eqGp_iff l
theorem blkG_same {rows rows' : List (List D)} {v : Value} (h : D.blocksL rows'.flatten = D.blocksL rows.flatten) (g : Nat) : BlkR v rows' g ↔ BlkR v rows g := by unfold BlkR; rw [h]
theorem blocks_grow {rows : List (List D)} {k : Nat} {x y : Gp} {u : Value} (hr : rows[k]? = some (gpRow x u)) : D.blocksL (rows.set k (gpRow y u)).flatten = D.blocksL rows.flatten := by
  induction rows generalizing k with
  | nil => simp at hr
  | cons r rows ih =>
    cases k with
    | zero =>
      simp at hr
      subst hr
      rw [List.set_cons_zero, List.flatten_cons, List.flatten_cons, D.blocksL_append, D.blocksL_append]
      congr 1
      simp only [gpRow, D.blocksL, rowsD_blocks, D.blocks]
    | succ k =>
      rw [List.set_cons_succ, List.flatten_cons, List.flatten_cons, D.blocksL_append, D.blocksL_append, ih (by simpa using hr)]

set_option maxHeartbeats 4000000 in
set_option maxRecDepth 100000 in
theorem markGroupS_any (A : Option Addr) (n cap base k0 : Nat) (l : List Gp) (vs : List (List D)) (w : World) (ho : OwnGp w base (.slice A n cap) l vs) (hn : l.length + totalG l ≤ 1048576) (hk : k0 + 2 * l.length + 2 * totalG l ≤ 16777216) :
    Calls Tryz.prog 27 #[.slice A n cap, .int .i64 k0] w fun e w' => e = .returned (.int .i64 ((endG k0 l : Nat) : Int)) ∧ (∃ vs', OwnGp w' base (.slice A n cap) (marksGp k0 l) vs') ∧ Wrote (BlkR (.slice A n cap) vs) w w' := by
  have HL := Lib.hid ho.len_
  have HE := Lib.hid (fun i => endG_take_le l i k0)
  have HN := Lib.hid hn
  have HK := Lib.hid hk
  have hn1 : n ≤ 1048576 := by rw [← HL.out]; omega
  clear hn hk
  go_enter Tryz.func27, Tryz.ntmps27
  go_wp2
  go_loopw [1, 5] (fun q i w' => ∃ j K : Nat, i = .int .i64 j ∧ q = .int .i64 (K : Int) ∧ Hid (K = endG k0 (l.take j)) ∧ j ≤ n ∧ (∃ vs', OwnGp w' base (.slice A n cap) (mkToG l k0 j) vs' ∧ Hid (D.blocksL vs'.flatten = D.blocksL vs.flatten)) ∧ Wrote (BlkR (.slice A n cap) vs) w w') (fun _ i _ => n - (intOf i).toNat)
  case atStart => exact ⟨0, k0, rfl, rfl, rfl, by omega, ⟨vs, by rw [mkToG_zero]; exact ho, rfl⟩, Wrote.refl _ _⟩
  case round =>
    obtain ⟨j, K, rfl, rfl, HKj, hj, ⟨vs', h1, HV⟩, h2⟩ := hrel
    by_cases hlt : j < n
    · obtain ⟨g, x, a1, m1, c1, rfl, hb0, hg0, hx, hr, d0, d1, d2, o1, hmc1, hok, hfz⟩ := h1.at_ hlt
      have hlj : l[j]? = some x := by
        obtain ⟨y, hy⟩ : ∃ y, l[j]? = some y := ⟨_, List.getElem?_eq_getElem (show j < l.length by rw [HL.out]; exact hlt)⟩
        rw [mkToG_get k0 hy] at hx
        rw [hy, hx]
      have hl1 : x.rows.length = m1 := o1.len_
      have hnx : nextGp K x = endG k0 (l.take (j + 1)) := by rw [take_at hlj, endG_snoc, ← HKj.out]
      have hKm : K + 2 + 2 * m1 ≤ 16777216 := by
        have h3 := HE.out (j + 1)
        rw [← hnx] at h3
        unfold nextGp at h3
        have := HK.out
        omega
      have hm1 : m1 ≤ 1048576 := by have := totalG_mem (List.mem_of_getElem? hlj); have := HN.out; unfold bulkG at *; omega
      have lx : ∀ y : Gp, ((mkToG l k0 j).set j y)[j]? = some y := fun y => set_eq (by rw [mkToG_len, HL.out]; exact hlt)
      have hjv : j < vs'.length := (List.getElem?_eq_some_iff.1 hr).1
      have lr : ∀ y : List D, (vs'.set j y)[j]? = some y := fun y => set_eq hjv
      have s1 := h1.setAt hx hr (K : Int) (nat_ok (by omega))
      have s2 := s1.setTo (lx _) (lr _) ((K : Int) + 1) ⟨by omega, by omega⟩
      rw [List.set_set, List.set_set] at s2
      have HJ := Lib.hid hlj
      have HR := Lib.hid hr
      have HLX := Lib.hid lx
      have HLR := Lib.hid lr
      have HNX := Lib.hid hnx
      have HH1 := Lib.hid h1
      have HL1 := Lib.hid hl1
      have HS2 := Lib.hid s2
      have O12 := Lib.hid (s2.rowsAt (lx _) (lr _))
      clear hlj hr hx lx lr hnx h1 s1 s2 hl1 o1 hmc1 hok hjv
      go_wp2_with fail
      rw [show ((K : Int) + 1 + 1) = ((K + 2 : Nat) : Int) from by omega]
      refine (markRowS_any a1 m1 c1 base (K + 2) x.rows _ O12.out hm1 (by omega)).mono ?_
      rintro e w1 ⟨rfl, p1, g1⟩
      have s3 := HS2.out.renewRows (HLX.out _) (HLR.out _) g1 p1
      rw [List.set_set, List.set_set] at s3
      dsimp only at s3
      have s7 : OwnGp w1 base (.slice (some ⟨g, 0, none⟩) n cap) (mkToG l k0 (j + 1)) (vs'.set j (gpRow (markGp K x) (.slice a1 m1 c1))) := by
        have e : (⟨(K : Int), (K : Int) + 1, marksR (K + 2) m1⟩ : Gp) = markGp K x := by
          unfold markGp; rw [HL1.out]
        rw [← mkToG_set k0 HJ.out, ← HKj.out, ← e]
        exact s3
      have hwr : Wrote (BlkR (.slice (some ⟨g, 0, none⟩) n cap) vs) w w1 :=
        ((h2.trans (Wrote.set (fun i => i = g) wr ⟨g, j * 3, none⟩ _ rfl) (fun i _ e => by rw [e]; exact BlkR.of_self)).trans (Wrote.set (fun i => i = g) _ ⟨g, j * 3 + 1, none⟩ _ rfl) (fun i _ e => by rw [e]; exact BlkR.of_self)).trans g1 (fun i _ e => (blkG_same HV.out i).1 (HH1.out.blkRows HR.out e))
      have HBL := Lib.hid ((blocks_grow (y := markGp K x) HR.out).trans HV.out)
      have HE2 := Lib.hid (show K + 2 + 2 * m1 = endG k0 (l.take (j + 1)) by rw [← HNX.out]; unfold nextGp; rw [HL1.out])
      clear s3 d0 d1 d2 hfz g1 p1
      go_wp2
      go_roundw
      case rel => exact ⟨j + 1, K + 2 + 2 * m1, by go_num, rfl, HE2.out, by omega, ⟨_, s7, HBL.out⟩, hwr⟩
      case measure => simp [intOf]; omega
    · have hf := Lib.hid (mkToG_all l k0 (i := j) (by rw [HL.out]; omega))
      have hf2 : K = endG k0 l := by rw [HKj.out, List.take_of_length_le (by rw [HL.out]; omega)]
      have HF2 := Lib.hid hf2
      clear hf2
      go_wp2
      go_ret
      exact ⟨ret_int (by rw [HF2.out]), ⟨vs', by rw [← hf.out]; exact h1⟩, h2⟩

set_option maxHeartbeats 4000000 in
set_option maxRecDepth 100000 in
theorem heldGroupS_any (A : Option Addr) (n cap k0 : Nat) (l : List Gp) (w : World) (ho : Gps w A n (marksGp k0 l)) (hn : l.length + totalG l ≤ 1048576) (hk : k0 + 2 * l.length + 2 * totalG l ≤ 16777216) :
    Calls Tryz.prog 28 #[.slice A n cap, .int .i64 k0] w fun e w' => e = .returned (.int .i64 ((endG k0 l : Nat) : Int)) ∧ Below w.heap.size w w' := by
  have HL := Lib.hid (show l.length = n by rw [← ho.len, marksGp_len])
  have HE := Lib.hid (fun i => endG_take_le l i k0)
  have HN := Lib.hid hn
  have HK := Lib.hid hk
  have hn1 : n ≤ 1048576 := by rw [← HL.out]; omega
  clear hn hk
  go_enter Tryz.func28, Tryz.ntmps28
  go_wp2
  go_loopw [1, 5] (fun q i w' => ∃ j K : Nat, i = .int .i64 j ∧ q = .int .i64 (K : Int) ∧ Hid (K = endG k0 (l.take j)) ∧ j ≤ n ∧ Below w.heap.size w w') (fun _ i _ => n - (intOf i).toNat)
  case atStart => exact ⟨0, k0, rfl, rfl, rfl, by omega, Below.refl _ _⟩
  case round =>
    obtain ⟨j, K, rfl, rfl, HKj, hj, hb⟩ := hrel
    by_cases hlt : j < n
    · obtain ⟨b, off, A1, m1, c1, y, rfl, hy, d0, d1, d2, hs1, hmc1, hok⟩ := (ho.below hb).at_ hlt
      obtain ⟨x, hlj⟩ : ∃ x, l[j]? = some x := ⟨_, List.getElem?_eq_getElem (show j < l.length by rw [HL.out]; exact hlt)⟩
      have hy2 : y = markGp K x := by rw [marksGp_get k0 hlj, ← HKj.out] at hy; injection hy with hy; exact hy.symm
      subst hy2
      have hl1 : m1 = x.rows.length := by rw [← hs1.len]; exact marksR_len _ _
      have hnx : nextGp K x = endG k0 (l.take (j + 1)) := by rw [take_at hlj, endG_snoc, ← HKj.out]
      have hKm : K + 2 + 2 * m1 ≤ 16777216 := by
        have h3 := HE.out (j + 1)
        rw [← hnx] at h3
        unfold nextGp at h3
        have := HK.out
        omega
      have hm1 : m1 ≤ 1048576 := by have := totalG_mem (List.mem_of_getElem? hlj); have := HN.out; unfold bulkG at *; omega
      have hs1' : Rws wr A1 m1 (marksR (K + 2) m1) := by rw [hl1] at hs1 ⊢; exact hs1
      have HE2 := Lib.hid (show K + 2 + 2 * m1 = endG k0 (l.take (j + 1)) by rw [← hnx]; unfold nextGp; rw [hl1])
      have k0' : wr.cell? ⟨b, off + j * 3, none⟩ = some (.int .i64 (K : Int)) := d0
      have k1' : wr.cell? ⟨b, off + j * 3 + 1, none⟩ = some (.int .i64 ((K : Int) + 1)) := d1
      clear hlj hy hs1 hl1 hnx d0 d1 hok
      have hq0 : ((K : Int) != (K : Int)) = false := by simp
      have hq1 : ((K : Int) + 1 != (K : Int) + 1) = false := by simp
      go_wp2_with fail
      rw [show ((K : Int) + 1 + 1) = ((K + 2 : Nat) : Int) from by omega]
      refine (heldRowS_any A1 m1 c1 (K + 2) _ hs1' hm1 (by omega)).mono ?_
      rintro e w1 ⟨rfl, b1⟩
      have hz : decide ((((K + 2 + 2 * m1 : Nat) : Int)) < 0) = false := by simp; omega
      go_wp2
      go_roundw
      case rel => exact ⟨j + 1, K + 2 + 2 * m1, by go_num, rfl, HE2.out, by omega, hb.next b1⟩
      case measure => simp [intOf]; omega
    · have hf2 : K = endG k0 l := by rw [HKj.out, List.take_of_length_le (by rw [HL.out]; omega)]
      have HF2 := Lib.hid hf2
      clear hf2
      go_wp2
      go_ret
      exact ⟨ret_int (by rw [HF2.out]), hb⟩

end Go.Proofs.YtkamenidgkjodaaGreatDoor
