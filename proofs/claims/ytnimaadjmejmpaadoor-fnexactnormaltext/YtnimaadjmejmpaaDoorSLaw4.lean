/-
  The laws' own small functions on lists of steps: copied, marked.
-/
import Derived.Test.YtnimaadjmejmpaaDoorSLaw3
set_option linter.unusedSimpArgs false
set_option linter.unusedVariables false
namespace Go.Proofs.YtnimaadjmejmpaaDoor
open Go.RowKit Go.ChangeShapes Go.WideShapes M

set_option maxHeartbeats 1000000 in
theorem toStepS_any (a : Option Addr) (n c : Nat) (l : List Sp) (w : World) (hl : Sps w a n l) (hn : l.length + totalP l ≤ 1048576) :
    Calls Tryd.prog 15 #[.slice a n c] w fun e w' => e = .returned (.slice (some ⟨w.heap.size, 0, none⟩) n n) ∧ (∃ vs, OwnSt w' w.heap.size (.slice (some ⟨w.heap.size, 0, none⟩) n n) l vs) ∧ Below w.heap.size w w' := by
  have HL := Lib.hid hl.len
  have hn1 : n ≤ 1048576 := by rw [← hl.len]; omega
  have hmk := make_sps n hn1
  have HN := Lib.hid hn
  clear hn
  go_enter Tryd.func15, Tryd.ntmps15
  go_wp2
  go_loopw [4] (fun i w' => ∃ k : Nat, i = .int .i64 k ∧ k ≤ n ∧ (∃ vs, OwnSt w' w.heap.size (.slice (some ⟨w.heap.size, 0, none⟩) n n) (fillP l k) vs) ∧ Below w.heap.size w w') (fun i _ => n - (intOf i).toNat)
  case atStart =>
    refine ⟨0, rfl, by omega, ?_, (Below.refl _ _).alloc (Nat.le_refl _) _⟩
    rw [fillP_zero, HL.out]
    exact ⟨_, OwnSt.made w n hn1⟩
  case round =>
    obtain ⟨k, rfl, hk, ⟨vs, ho⟩, hb⟩ := hrel
    by_cases hlt : k < n
    · obtain ⟨b, off, A, m, c', B, m2, c2', x, rfl, hx, c0, c1, c2, c3, c4, c5, hs, hmc, hs2, hmc2, hok⟩ := (hl.below hb).at_ hlt
      have HX := Lib.hid hx
      have hm : m ≤ 1048576 ∧ m2 ≤ 1048576 := by have := totalP_mem (List.mem_of_getElem? hx); have := HN.out; have := hs.len; have := hs2.len; unfold bulk at this; constructor <;> (unfold bulk at *; omega)
      obtain ⟨hm, hm2⟩ := hm
      clear hx
      go_wp2_with fail
      refine (toStep_any A B m c' m2 c2' x _ hs hs2 hm hm2).mono ?_
      rintro e w1 ⟨g, g2, hg1, hg12, hg2, rfl, o1, o2, b1⟩
      have ho1 := ho.below b1
      have hold : ∀ g', BlkR (.slice (some ⟨w.heap.size, 0, none⟩) n n) vs g' → g' < wr.heap.size := fun g' e => (ho.lt e).2
      obtain ⟨g0, x0, a1, m1, c1', a2, m2', c2'', hg0, hb0, hl0, hx0, hr0, d0, d1, d2, d3, d4, d5, ho0, hmc0, ho02, hmc02, hok0, hfz⟩ := ho1.at_ hlt
      injection hg0 with hg0
      injection hg0 with hg0
      subst hg0
      have hput := ho1.put hlt x hok _ _ (o1.more (show w.heap.size ≤ wr.heap.size from hb.size)) (o2.more (show w.heap.size ≤ wr.heap.size from hb.size)) (fun g' e e2 => by have := hold g' e2; injection e with e; simp at e; omega) (fun g' e e2 => by have := hold g' e2; injection e with e; simp at e; omega) (fun g' e e2 => by injection e with e; injection e2 with e2; simp at e e2; omega)
      clear hx0 hr0
      go_wp2
      go_roundw
      case rel =>
        refine ⟨k + 1, by go_num, by omega, ⟨_, by rw [← fillP_set HX.out]; exact hput⟩, ?_⟩
        exact ((((((hb.next b1).setCell (Nat.le_refl _) _).setCell (Nat.le_refl _) _).setCell (Nat.le_refl _) _).setCell (Nat.le_refl _) _).setCell (Nat.le_refl _) _).setCell (Nat.le_refl _) _
      case measure => simp [intOf]; omega
    · have hf := Lib.hid (fillP_all l (k := k) (by rw [HL.out]; omega))
      go_wp2
      go_ret
      exact ⟨rfl, ⟨vs, by rw [hf.out] at ho; exact ho⟩, hb⟩

section
variable {w w' : World} {base g n cap k : Nat} {p : List Sp} {rows : List (List D)} {x : Sp} {u u2 : Value}
theorem OwnSt.reset (h : OwnSt w base (.slice (some ⟨g, 0, none⟩) n cap) p rows) (hx : p[k]? = some x) {r' : List D} (ho : OwnR w' base (.slice (some ⟨g, 0, none⟩) n cap) 54 6 (rows.set k r')) (y : Sp) (hr : ∃ u u2, r' = spRow y u u2) (hy : SpOk y) :
    OwnSt w' base (.slice (some ⟨g, 0, none⟩) n cap) (p.set k y) (rows.set k r') := by
  refine ⟨by simp [h.len], ho, fun j q z hq hz => ?_, fun z hz => ?_⟩
  · rcases set_get hq with ⟨rfl, rfl⟩ | ⟨hne, hq⟩
    · rcases set_get hz with ⟨_, rfl⟩ | ⟨hne, _⟩
      · exact hr
      · exact absurd rfl hne
    · rcases set_get hz with ⟨e, _⟩ | ⟨_, hz⟩
      · exact absurd e hne
      · exact h.row j q z hq hz
  · rcases List.mem_or_eq_of_mem_set hz with h5 | h5
    · exact h.ok z h5
    · rw [h5]; exact hy
/-- One number of a step is written. -/
theorem OwnSt.setFr (h : OwnSt w base (.slice (some ⟨g, 0, none⟩) n cap) p rows) (hx : p[k]? = some x) (hr : rows[k]? = some (spRow x u u2)) (i : Int) (hi : i64ok i) :
    OwnSt (w.setCell ⟨g, k * 6, none⟩ (.int .i64 i)) base (.slice (some ⟨g, 0, none⟩) n cap) (p.set k { x with fr := i }) (rows.set k (spRow { x with fr := i } u u2)) := by
  have hok := h.ok x (List.mem_of_getElem? hx)
  exact h.reset hx (h.own.set hr (j := 0) rfl (u := .int .i64 i) rfl) _ ⟨u, u2, rfl⟩ ⟨hi, hok.to_, hok.at_, hok.en, hok.old, hok.new⟩
theorem OwnSt.setTo (h : OwnSt w base (.slice (some ⟨g, 0, none⟩) n cap) p rows) (hx : p[k]? = some x) (hr : rows[k]? = some (spRow x u u2)) (i : Int) (hi : i64ok i) :
    OwnSt (w.setCell ⟨g, k * 6 + 1, none⟩ (.int .i64 i)) base (.slice (some ⟨g, 0, none⟩) n cap) (p.set k { x with to_ := i }) (rows.set k (spRow { x with to_ := i } u u2)) := by
  have hok := h.ok x (List.mem_of_getElem? hx)
  exact h.reset hx (h.own.set hr (j := 1) rfl (u := .int .i64 i) rfl) _ ⟨u, u2, rfl⟩ ⟨hok.fr, hi, hok.at_, hok.en, hok.old, hok.new⟩
theorem OwnSt.setAt (h : OwnSt w base (.slice (some ⟨g, 0, none⟩) n cap) p rows) (hx : p[k]? = some x) (hr : rows[k]? = some (spRow x u u2)) (i : Int) (hi : i64ok i) :
    OwnSt (w.setCell ⟨g, k * 6 + 3, none⟩ (.int .i64 i)) base (.slice (some ⟨g, 0, none⟩) n cap) (p.set k { x with at_ := i }) (rows.set k (spRow { x with at_ := i } u u2)) := by
  have hok := h.ok x (List.mem_of_getElem? hx)
  exact h.reset hx (h.own.set hr (j := 3) rfl (u := .int .i64 i) rfl) _ ⟨u, u2, rfl⟩ ⟨hok.fr, hok.to_, hi, hok.en, hok.old, hok.new⟩
theorem OwnSt.setEn (h : OwnSt w base (.slice (some ⟨g, 0, none⟩) n cap) p rows) (hx : p[k]? = some x) (hr : rows[k]? = some (spRow x u u2)) (i : Int) (hi : i64ok i) :
    OwnSt (w.setCell ⟨g, k * 6 + 4, none⟩ (.int .i64 i)) base (.slice (some ⟨g, 0, none⟩) n cap) (p.set k { x with en := i }) (rows.set k (spRow { x with en := i } u u2)) := by
  have hok := h.ok x (List.mem_of_getElem? hx)
  exact h.reset hx (h.own.set hr (j := 4) rfl (u := .int .i64 i) rfl) _ ⟨u, u2, rfl⟩ ⟨hok.fr, hok.to_, hok.at_, hi, hok.old, hok.new⟩
/-- The lines of Old are written, in the block that they have; likewise those of New. -/
theorem OwnSt.renewOld (h : OwnSt w base (.slice (some ⟨g, 0, none⟩) n cap) p rows) (hx : p[k]? = some x) (hr : rows[k]? = some (spRow x u u2)) (hw : w.grownBy w' u.ownBlock) {r : List ByteArray} (ho : OwnV w' base u r) :
    OwnSt w' base (.slice (some ⟨g, 0, none⟩) n cap) (p.set k { x with old := r }) (rows.set k (spRow { x with old := r } u u2)) := by
  have hok := h.ok x (List.mem_of_getElem? hx)
  refine h.reset hx (h.own.renew hr (j := 2) (d := textsD u x.old) (d' := textsD u r) rfl (Wrote.of_grown hw (fun i e => by rw [textsD_blocks]; simp [e])) ho.datum.own (by rw [textsD_blocks, textsD_blocks]) rfl) _ ⟨u, u2, rfl⟩ ⟨hok.fr, hok.to_, hok.at_, hok.en, ho.small, hok.new⟩
theorem OwnSt.renewNew (h : OwnSt w base (.slice (some ⟨g, 0, none⟩) n cap) p rows) (hx : p[k]? = some x) (hr : rows[k]? = some (spRow x u u2)) (hw : w.grownBy w' u2.ownBlock) {r : List ByteArray} (ho : OwnV w' base u2 r) :
    OwnSt w' base (.slice (some ⟨g, 0, none⟩) n cap) (p.set k { x with new := r }) (rows.set k (spRow { x with new := r } u u2)) := by
  have hok := h.ok x (List.mem_of_getElem? hx)
  refine h.reset hx (h.own.renew hr (j := 5) (d := textsD u2 x.new) (d' := textsD u2 r) rfl (Wrote.of_grown hw (fun i e => by rw [textsD_blocks]; simp [e])) ho.datum.own (by rw [textsD_blocks, textsD_blocks]) rfl) _ ⟨u, u2, rfl⟩ ⟨hok.fr, hok.to_, hok.at_, hok.en, hok.old, ho.small⟩
/-- The blocks of both lists of a step are its slice's. -/
theorem OwnSt.blkOld (h : OwnSt w base (.slice (some ⟨g, 0, none⟩) n cap) p rows) (hr : rows[k]? = some (spRow x u u2)) {i : Nat} (e : u.ownBlock = some i) : BlkR (.slice (some ⟨g, 0, none⟩) n cap) rows i :=
  BlkR.of_row hr h.own.wide (j := 2) rfl (by rw [textsD_blocks]; simp [e])
theorem OwnSt.blkNew (h : OwnSt w base (.slice (some ⟨g, 0, none⟩) n cap) p rows) (hr : rows[k]? = some (spRow x u u2)) {i : Nat} (e : u2.ownBlock = some i) : BlkR (.slice (some ⟨g, 0, none⟩) n cap) rows i :=
  BlkR.of_row hr h.own.wide (j := 5) rfl (by rw [textsD_blocks]; simp [e])
theorem OwnSt.newAt (h : OwnSt w base (.slice (some ⟨g, 0, none⟩) n cap) p rows) (hx : p[k]? = some x) (hr : rows[k]? = some (spRow x u u2)) : OwnV w base u x.old ∧ OwnV w base u2 x.new := by
  have hok := h.ok x (List.mem_of_getElem? hx)
  exact ⟨D.own_texts (h.own.datum hr (j := 2) rfl) hok.old, D.own_texts (h.own.datum hr (j := 5) rfl) hok.new⟩
end

/-- The rows of steps that are marked have the blocks that they had. -/
theorem blk_same {rows rows' : List (List D)} {v : Value} (h : D.blocksL rows'.flatten = D.blocksL rows.flatten) (g : Nat) : BlkR v rows' g ↔ BlkR v rows g := by unfold BlkR; rw [h]
theorem blocks_row {rows : List (List D)} {k : Nat} {x y : Sp} {u u2 : Value} (hw : ∀ r ∈ rows, r.length = 6) (hr : rows[k]? = some (spRow x u u2)) : D.blocksL (rows.set k (spRow y u u2)).flatten = D.blocksL rows.flatten := by
  induction rows generalizing k with
  | nil => simp at hr
  | cons r rows ih =>
    cases k with
    | zero =>
      simp at hr
      subst hr
      rw [List.set_cons_zero, List.flatten_cons, List.flatten_cons, D.blocksL_append, D.blocksL_append]
      congr 1
      simp only [spRow, D.blocksL, textsD_blocks, D.blocks]
    | succ k =>
      rw [List.set_cons_succ, List.flatten_cons, List.flatten_cons, D.blocksL_append, D.blocksL_append, ih (fun q hq => hw q (by simp [hq])) (by simpa using hr)]

end Go.Proofs.YtnimaadjmejmpaaDoor
