/-
  The laws' own comparison of groups, where both are the same.
  The laws' own small functions on rows: counted, copied, compared, marked, held.
  The laws' own small functions on groups: counted, copied, compared, marked, held.
  The laws' own small functions on groups: marked, held.
-/
import Derived.Test.YtkamenidgkjodaaGreatDoorQaGMem
import Derived.Test.YtkamenidgkjodaaGreatDoorQaMemT
import Derived.Deep.RegionHeld3
import Derived.BigQuiet
import Derived.Test.YtkamenidgkjodaaGreatDoorQaHMems
set_option linter.unusedSimpArgs false
set_option linter.unusedVariables false
namespace Go.Proofs.YtkamenidgkjodaaGreatDoor
open Go.RowKit M

set_option maxHeartbeats 2000000 in
set_option maxRecDepth 100000 in
theorem sameGroup_same (A B : Option Addr) (n c d : Nat) (x : Gp) (w : World) (hl : Rws w A n x.rows) (hr : Rws w B n x.rows) :
    Calls Tryz.prog 41 #[.agg #[.int .i64 x.at_, .int .i64 x.to_, .slice A n c], .agg #[.int .i64 x.at_, .int .i64 x.to_, .slice B n d]] w fun e w' => e = .returned (.bool true) ∧ Below w.heap.size w w' := by
  have hlim := hl.lim
  unfold maxLen at hlim
  have q0 : (x.at_ != x.at_) = false := by simp
  have q1 : (x.to_ != x.to_) = false := by simp
  have q2 : ((n : Int) != (n : Int)) = false := by simp
  obtain ⟨W, HW⟩ : ∃ W, Hid ((w.alloc (.cells #[.int .i64 x.at_, .int .i64 x.to_, .slice A n c] 60)).alloc (.cells #[.int .i64 x.at_, .int .i64 x.to_, .slice B n d] 60) = W) := ⟨_, rfl⟩
  have HB := Lib.hid (show Below w.heap.size w W by rw [← HW.out]; exact ((Below.refl _ _).next (below_alloc _ _)).next (below_alloc _ _))
  have HA0 := Lib.hid (show W.cell? ⟨w.heap.size, 2, none⟩ = some (.slice A n c) by rw [← HW.out]; exact cell_keep (below_alloc _ _) (by rw [World.cell?, heap_alloc_new]; rfl))
  have HA1 := Lib.hid (show W.cell? ⟨w.heap.size + 1, 2, none⟩ = some (.slice B n d) by
    have hs : (w.alloc (.cells #[.int .i64 x.at_, .int .i64 x.to_, .slice A n c] 60)).heap.size = w.heap.size + 1 := by simp
    rw [← HW.out, ← hs, World.cell?, heap_alloc_new]; rfl)
  go_enter Tryz.func41, Tryz.ntmps41
  go_wp2
  rw [HW.out]
  go_loopw [30] (fun i w' => ∃ k : Nat, i = .int .i64 k ∧ k ≤ n ∧ Below W.heap.size W w') (fun i _ => n - (intOf i).toNat)
  case atStart => exact ⟨0, rfl, by omega, Below.refl _ _⟩
  case round =>
    obtain ⟨k, rfl, hk, hb⟩ := hrel
    have hbw := HB.out.next hb
    by_cases hlt : k < n
    · obtain ⟨b1, off1, y1, rfl, hx, d0, d1, _⟩ := (hl.below hbw).at_ hlt
      obtain ⟨b2, off2, y2, rfl, hy, e0, e1, _⟩ := (hr.below hbw).at_ hlt
      obtain rfl : y2 = y1 := by rw [hx] at hy; injection hy with hy; exact hy.symm
      clear hx hy
      clear hl hr
      have hi0 : (0 : Int) ≤ (k : Int) := by omega
      have hi1 : (k : Int) < (n : Int) := by omega
      have f0 := cell_keep hb HA0.out
      have f1 := cell_keep hb HA1.out
      go_wp2
      go_quiet (fail)
      go_wp2
      go_roundw
      case rel => exact ⟨k + 1, by go_num, by omega, below_drewN hb _⟩
      case measure => simp [intOf]; omega
    · go_wp2
      go_ret
      exact ⟨rfl, HB.out.next hb⟩

set_option maxHeartbeats 2000000 in
set_option maxRecDepth 100000 in
theorem sameGroups_same (a b : Option Addr) (n c d : Nat) (g : List Gp) (w : World) (hl : Gps w a n g) (hr : Gps w b n g) :
    Calls Tryz.prog 13 #[.slice a n c, .slice b n d] w fun e w' => e = .returned (.bool true) ∧ Below w.heap.size w w' := by
  have hlim := hl.lim
  unfold maxLen at hlim
  have hq : ((n : Int) != (n : Int)) = false := by simp
  go_enter Tryz.func13, Tryz.ntmps13
  go_wp2
  go_loopw [13] (fun i w' => ∃ k : Nat, i = .int .i64 k ∧ k ≤ n ∧ Below w.heap.size w w') (fun i _ => n - (intOf i).toNat)
  case atStart => exact ⟨0, rfl, by omega, Below.refl _ _⟩
  case round =>
    obtain ⟨k, rfl, hk, hb⟩ := hrel
    by_cases hlt : k < n
    · obtain ⟨b1, off1, A1, m1, c1, x, rfl, hx, d0, d1, d2, hs1, _, _⟩ := (hl.below hb).at_ hlt
      obtain ⟨b2, off2, A2, m2, c2, y, rfl, hy, e0, e1, e2, hs2, _, _⟩ := (hr.below hb).at_ hlt
      obtain rfl : y = x := by rw [hx] at hy; injection hy with hy; exact hy.symm
      have hm : m2 = m1 := by rw [← hs1.len, ← hs2.len]
      subst hm
      clear hx hy hl hr
      have hi0 : (0 : Int) ≤ (k : Int) := by omega
      have hi1 : (k : Int) < (n : Int) := by omega
      go_wp2
      go_region_held3 (fun w' => w'.cell? ⟨b1, off1 + k * 3, none⟩ = some (.int .i64 y.at_) ∧ w'.cell? ⟨b1, off1 + k * 3 + 1, none⟩ = some (.int .i64 y.to_) ∧ w'.cell? ⟨b1, off1 + k * 3 + 2, none⟩ = some (.slice A1 m2 c1) ∧ w'.cell? ⟨b2, off2 + k * 3, none⟩ = some (.int .i64 y.at_) ∧ w'.cell? ⟨b2, off2 + k * 3 + 1, none⟩ = some (.int .i64 y.to_) ∧ w'.cell? ⟨b2, off2 + k * 3 + 2, none⟩ = some (.slice A2 m2 c2)) (first | exact ⟨d0, d1, d2, e0, e1, e2⟩ | exact ⟨cell_keep q1 d0, cell_keep q1 d1, cell_keep q1 d2, cell_keep q1 e0, cell_keep q1 e1, cell_keep q1 e2⟩ | go_keep)
        (first | (go_at_call 41; refine (sameGroup_same A1 A2 m2 c1 c2 y _ (hs1.below (Below.refl _ _).drew) (hs2.below (Below.refl _ _).drew)).mono ?_; rintro e w1 ⟨rfl, q1⟩) | fail)
      have B5 := hb.drew.next q1
      go_wp2
      go_roundw
      case rel => exact ⟨k + 1, by go_num, by omega, B5⟩
      case measure => simp [intOf]; omega
    · go_wp2
      go_ret
      exact ⟨rfl, hb⟩

end Go.Proofs.YtkamenidgkjodaaGreatDoor

namespace Go.Proofs.YtkamenidgkjodaaGreatDoor
open Go.RowKit Go.ChangeShapes Go.WideShapes M

/-! Rows are copied. -/
theorem rw_info : (Tryz.prog.info? 62).map (fun i => (i.zero, i.size, i.bytes)) = some (some (.agg #[.int .i64 0, .string ByteArray.empty]), 2, 24) := by kernel_rfl

end Go.Proofs.YtkamenidgkjodaaGreatDoor

namespace Go.Proofs.YtkamenidgkjodaaGreatDoor
open Go.RowKit Go.ChangeShapes Go.WideShapes M

/-! Rows are marked. -/
section
variable {w w' : World} {base g n cap k : Nat} {l : List Rw} {x : Rw}
theorem OwnRw.setKind (h : OwnRw w base (.slice (some ⟨g, 0, none⟩) n cap) l) (hx : l[k]? = some x) (i : Int) (hi : i64ok i) :
    OwnRw (w.setCell ⟨g, k * 2, none⟩ (.int .i64 i)) base (.slice (some ⟨g, 0, none⟩) n cap) (l.set k ⟨i, x.line⟩) := by
  have hok := h.ok x (List.mem_of_getElem? hx)
  have hr : (l.map rwRow)[k]? = some (rwRow x) := by rw [List.getElem?_map, hx]; rfl
  have s0 := h.own.set (u := .int .i64 i) hr (j := 0) rfl rfl
  refine ⟨?_, fun y hy => ?_⟩
  · have e : (l.set k ⟨i, x.line⟩).map rwRow = (l.map rwRow).set k (rwRow ⟨i, x.line⟩) := by rw [List.map_set]
    rw [e]
    exact s0
  · rcases List.mem_or_eq_of_mem_set hy with h5 | h5
    · exact h.ok y h5
    · rw [h5]; exact ⟨hi, hok.line⟩
theorem OwnRw.setLine (h : OwnRw w base (.slice (some ⟨g, 0, none⟩) n cap) l) (hx : l[k]? = some x) (s : ByteArray) (hs : s.size ≤ maxLen) :
    OwnRw (w.setCell ⟨g, k * 2 + 1, none⟩ (.string s)) base (.slice (some ⟨g, 0, none⟩) n cap) (l.set k ⟨x.kind, s⟩) := by
  have hok := h.ok x (List.mem_of_getElem? hx)
  have hr : (l.map rwRow)[k]? = some (rwRow x) := by rw [List.getElem?_map, hx]; rfl
  have s0 := h.own.set (u := .string s) hr (j := 1) rfl rfl
  refine ⟨?_, fun y hy => ?_⟩
  · have e : (l.set k ⟨x.kind, s⟩).map rwRow = (l.map rwRow).set k (rwRow ⟨x.kind, s⟩) := by rw [List.map_set]
    rw [e]
    exact s0
  · rcases List.mem_or_eq_of_mem_set hy with h5 | h5
    · exact h.ok y h5
    · rw [h5]; exact ⟨hok.kind, hs⟩
end

end Go.Proofs.YtkamenidgkjodaaGreatDoor

namespace Go.Proofs.YtkamenidgkjodaaGreatDoor
open Go.RowKit Go.ChangeShapes Go.WideShapes M

/-! Groups are copied. -/
theorem OwnRw.setBelow {w : World} {base : Nat} {v : Value} {l : List Rw} {a : Addr} (h : OwnRw w base v l) (hlt : a.block < base) (u : Value) : OwnRw (w.setCell a u) base v l :=
  h.wrote (Wrote.set (fun i => i = a.block) w a u rfl) (fun g e e2 => by have := (h.lt e).1; omega)

theorem gp_info : (Tryz.prog.info? 60).map (fun i => (i.zero, i.size, i.bytes)) = some (some (.agg #[.int .i64 0, .int .i64 0, .slice none 0 0]), 3, 40) := by kernel_rfl

end Go.Proofs.YtkamenidgkjodaaGreatDoor

namespace Go.Proofs.YtkamenidgkjodaaGreatDoor
open Go.RowKit Go.ChangeShapes Go.WideShapes M

section
variable {w w' : World} {base g n cap k : Nat} {p : List Gp} {rows : List (List D)} {x : Gp} {u : Value}
theorem OwnGp.reset (h : OwnGp w base (.slice (some ⟨g, 0, none⟩) n cap) p rows) (hx : p[k]? = some x) {r' : List D} (ho : OwnR w' base (.slice (some ⟨g, 0, none⟩) n cap) 60 3 (rows.set k r')) (y : Gp) (hr : ∃ u, r' = gpRow y u) (hy : GpOk y) :
    OwnGp w' base (.slice (some ⟨g, 0, none⟩) n cap) (p.set k y) (rows.set k r') := by
  refine ⟨by simp [h.len], ho, fun j q z hq hz => ?_, fun z hz => ?_⟩
  · rcases set_get hq with ⟨rfl, rfl⟩ | ⟨hne, hq⟩
    · rcases set_get hz with ⟨_, rfl⟩ | ⟨hne, _⟩
      · exact hr
      · exact absurd rfl hne
    · rcases set_get hz with ⟨e, _⟩ | ⟨_, hz⟩
      · exact absurd e hne
      · exact h.row j q z hq hz
  · rcases List.mem_or_eq_of_mem_set hz with h5 | h5
    · exact h.ok z h5
    · rw [h5]; exact hy
theorem OwnGp.setAt (h : OwnGp w base (.slice (some ⟨g, 0, none⟩) n cap) p rows) (hx : p[k]? = some x) (hr : rows[k]? = some (gpRow x u)) (i : Int) (hi : i64ok i) :
    OwnGp (w.setCell ⟨g, k * 3, none⟩ (.int .i64 i)) base (.slice (some ⟨g, 0, none⟩) n cap) (p.set k { x with at_ := i }) (rows.set k (gpRow { x with at_ := i } u)) := by
  have hok := h.ok x (List.mem_of_getElem? hx)
  exact h.reset hx (h.own.set hr (j := 0) rfl (u := .int .i64 i) rfl) _ ⟨u, rfl⟩ ⟨hi, hok.to_, hok.rows⟩
theorem OwnGp.setTo (h : OwnGp w base (.slice (some ⟨g, 0, none⟩) n cap) p rows) (hx : p[k]? = some x) (hr : rows[k]? = some (gpRow x u)) (i : Int) (hi : i64ok i) :
    OwnGp (w.setCell ⟨g, k * 3 + 1, none⟩ (.int .i64 i)) base (.slice (some ⟨g, 0, none⟩) n cap) (p.set k { x with to_ := i }) (rows.set k (gpRow { x with to_ := i } u)) := by
  have hok := h.ok x (List.mem_of_getElem? hx)
  exact h.reset hx (h.own.set hr (j := 1) rfl (u := .int .i64 i) rfl) _ ⟨u, rfl⟩ ⟨hok.at_, hi, hok.rows⟩
/-- The rows of a group are written, in the block that they have. -/
theorem OwnGp.renewRows (h : OwnGp w base (.slice (some ⟨g, 0, none⟩) n cap) p rows) (hx : p[k]? = some x) (hr : rows[k]? = some (gpRow x u)) (hw : Wrote (fun i => u.ownBlock = some i) w w') {r : List Rw} (ho : OwnRw w' base u r) :
    OwnGp w' base (.slice (some ⟨g, 0, none⟩) n cap) (p.set k { x with rows := r }) (rows.set k (gpRow { x with rows := r } u)) := by
  have hok := h.ok x (List.mem_of_getElem? hx)
  refine h.reset hx (h.own.renew hr (j := 2) (d := rowsD u x.rows) (d' := rowsD u r) rfl (hw.mono (fun i _ e => by rw [rowsD_blocks]; simp [e])) ho.datum.own (by rw [rowsD_blocks, rowsD_blocks]) rfl) _ ⟨u, rfl⟩ ⟨hok.at_, hok.to_, ho.ok⟩
theorem OwnGp.rowsAt (h : OwnGp w base (.slice (some ⟨g, 0, none⟩) n cap) p rows) (hx : p[k]? = some x) (hr : rows[k]? = some (gpRow x u)) : OwnRw w base u x.rows := D.own_rows (h.own.datum hr (j := 2) rfl) (h.ok x (List.mem_of_getElem? hx)).rows
end

end Go.Proofs.YtkamenidgkjodaaGreatDoor
