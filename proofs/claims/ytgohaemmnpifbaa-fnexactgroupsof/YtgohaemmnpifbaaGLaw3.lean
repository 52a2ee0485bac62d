/-
  The laws' own small functions on groups: marked, held.
-/
import Derived.Test.YtgohaemmnpifbaaGLaw2
set_option linter.unusedSimpArgs false
set_option linter.unusedVariables false
namespace Go.Proofs.Ytgohaemmnpifbaa
open Go.RowKit Go.ChangeShapes Go.WideShapes M

section
variable {w w' : World} {base g n cap k : Nat} {p : List Gp} {rows : List (List D)} {x : Gp} {u : Value}
theorem OwnGp.reset (h : OwnGp w base (.slice (some ⟨g, 0, none⟩) n cap) p rows) (hx : p[k]? = some x) {r' : List D} (ho : OwnR w' base (.slice (some ⟨g, 0, none⟩) n cap) 51 3 (rows.set k r')) (y : Gp) (hr : ∃ u, r' = gpRow y u) (hy : GpOk y) :
    OwnGp w' base (.slice (some ⟨g, 0, none⟩) n cap) (p.set k y) (rows.set k r') := by
  refine ⟨by simp [h.len], ho, fun j q z hq hz => ?_, fun z hz => ?_⟩
  · rcases set_get hq with ⟨rfl, rfl⟩ | ⟨hne, hq⟩
    · rcases set_get hz with ⟨_, rfl⟩ | ⟨hne, _⟩
      · exact hr
      · exact absurd rfl hne
    · rcases set_get hz with ⟨e, _⟩ | ⟨_, hz⟩
      · exact absurd e hne
      · exact h.row j q z hq hz
  · rcases List.mem_or_eq_of_mem_set hz with h5 | h5
    · exact h.ok z h5
    · rw [h5]; exact hy
theorem OwnGp.setAt (h : OwnGp w base (.slice (some ⟨g, 0, none⟩) n cap) p rows) (hx : p[k]? = some x) (hr : rows[k]? = some (gpRow x u)) (i : Int) (hi : i64ok i) :
    OwnGp (w.setCell ⟨g, k * 3, none⟩ (.int .i64 i)) base (.slice (some ⟨g, 0, none⟩) n cap) (p.set k { x with at_ := i }) (rows.set k (gpRow { x with at_ := i } u)) := by
  have hok := h.ok x (List.mem_of_getElem? hx)
  exact h.reset hx (h.own.set hr (j := 0) rfl (u := .int .i64 i) rfl) _ ⟨u, rfl⟩ ⟨hi, hok.to_, hok.rows⟩
theorem OwnGp.setTo (h : OwnGp w base (.slice (some ⟨g, 0, none⟩) n cap) p rows) (hx : p[k]? = some x) (hr : rows[k]? = some (gpRow x u)) (i : Int) (hi : i64ok i) :
    OwnGp (w.setCell ⟨g, k * 3 + 1, none⟩ (.int .i64 i)) base (.slice (some ⟨g, 0, none⟩) n cap) (p.set k { x with to_ := i }) (rows.set k (gpRow { x with to_ := i } u)) := by
  have hok := h.ok x (List.mem_of_getElem? hx)
  exact h.reset hx (h.own.set hr (j := 1) rfl (u := .int .i64 i) rfl) _ ⟨u, rfl⟩ ⟨hok.at_, hi, hok.rows⟩
/-- The rows of a group are written, in the block that they have. -/
theorem OwnGp.renewRows (h : OwnGp w base (.slice (some ⟨g, 0, none⟩) n cap) p rows) (hx : p[k]? = some x) (hr : rows[k]? = some (gpRow x u)) (hw : Wrote (fun i => u.ownBlock = some i) w w') {r : List Rw} (ho : OwnRw w' base u r) :
    OwnGp w' base (.slice (some ⟨g, 0, none⟩) n cap) (p.set k { x with rows := r }) (rows.set k (gpRow { x with rows := r } u)) := by
  have hok := h.ok x (List.mem_of_getElem? hx)
  refine h.reset hx (h.own.renew hr (j := 2) (d := rowsD u x.rows) (d' := rowsD u r) rfl (hw.mono (fun i _ e => by rw [rowsD_blocks]; simp [e])) ho.datum.own (by rw [rowsD_blocks, rowsD_blocks]) rfl) _ ⟨u, rfl⟩ ⟨hok.at_, hok.to_, ho.ok⟩
theorem OwnGp.blkRows (h : OwnGp w base (.slice (some ⟨g, 0, none⟩) n cap) p rows) (hr : rows[k]? = some (gpRow x u)) {i : Nat} (e : u.ownBlock = some i) : BlkR (.slice (some ⟨g, 0, none⟩) n cap) rows i :=
  BlkR.of_row hr h.own.wide (j := 2) rfl (by rw [rowsD_blocks]; simp [e])
theorem OwnGp.rowsAt (h : OwnGp w base (.slice (some ⟨g, 0, none⟩) n cap) p rows) (hx : p[k]? = some x) (hr : rows[k]? = some (gpRow x u)) : OwnRw w base u x.rows := D.own_rows (h.own.datum hr (j := 2) rfl) (h.ok x (List.mem_of_getElem? hx)).rows
end

theorem eqGS_refl (l : List Gp) : eqGS l l = true := eqL_refl eqGp_iff l
theorem blkG_same {rows rows' : List (List D)} {v : Value} (h : D.blocksL rows'.flatten = D.blocksL rows.flatten) (g : Nat) : BlkR v rows' g ↔ BlkR v rows g := by unfold BlkR; rw [h]
theorem blocks_grow {rows : List (List D)} {k : Nat} {x y : Gp} {u : Value} (hr : rows[k]? = some (gpRow x u)) : D.blocksL (rows.set k (gpRow y u)).flatten = D.blocksL rows.flatten := by
  induction rows generalizing k with
  | nil => simp at hr
  | cons r rows ih =>
    cases k with
    | zero =>
      simp at hr
      subst hr
      rw [List.set_cons_zero, List.flatten_cons, List.flatten_cons, D.blocksL_append, D.blocksL_append]
      congr 1
      simp only [gpRow, D.blocksL, rowsD_blocks, D.blocks]
    | succ k =>
      rw [List.set_cons_succ, List.flatten_cons, List.flatten_cons, D.blocksL_append, D.blocksL_append, ih (by simpa using hr)]

set_option maxHeartbeats 4000000 in
set_option maxRecDepth 100000 in
theorem markGroupS_any (A : Option Addr) (n cap base k0 : Nat) (l : List Gp) (vs : List (List D)) (w : World) (ho : OwnGp w base (.slice A n cap) l vs) (hn : l.length + totalG l ≤ 1048576) (hk : k0 + 2 * l.length + 2 * totalG l ≤ 16777216) :
    Calls Try.prog 19 #[.slice A n cap, .int .i64 k0] w fun e w' => e = .returned (.int .i64 ((endG k0 l : Nat) : Int)) ∧ (∃ vs', OwnGp w' base (.slice A n cap) (marksGp k0 l) vs') ∧ Wrote (BlkR (.slice A n cap) vs) w w' := by
  have HL := Lib.hid ho.len_
  have HE := Lib.hid (fun i => endG_take_le l i k0)
  have HN := Lib.hid hn
  have HK := Lib.hid hk
  have hn1 : n ≤ 1048576 := by rw [← HL.out]; omega
  clear hn hk
  go_enter Try.func19, Try.ntmps19
  go_wp2
  go_loopw [1, 5] (fun q i w' => ∃ j K : Nat, i = .int .i64 j ∧ q = .int .i64 (K : Int) ∧ Hid (K = endG k0 (l.take j)) ∧ j ≤ n ∧ (∃ vs', OwnGp w' base (.slice A n cap) (mkToG l k0 j) vs' ∧ Hid (D.blocksL vs'.flatten = D.blocksL vs.flatten)) ∧ Wrote (BlkR (.slice A n cap) vs) w w') (fun _ i _ => n - (intOf i).toNat)
  case atStart => exact ⟨0, k0, rfl, rfl, rfl, by omega, ⟨vs, by rw [mkToG_zero]; exact ho, rfl⟩, Wrote.refl _ _⟩
  case round =>
    obtain ⟨j, K, rfl, rfl, HKj, hj, ⟨vs', h1, HV⟩, h2⟩ := hrel
    by_cases hlt : j < n
    · obtain ⟨g, x, a1, m1, c1, rfl, hb0, hg0, hx, hr, d0, d1, d2, o1, hmc1, hok, hfz⟩ := h1.at_ hlt
      have hlj : l[j]? = some x := by
        obtain ⟨y, hy⟩ : ∃ y, l[j]? = some y := ⟨_, List.getElem?_eq_getElem (show j < l.length by rw [HL.out]; exact hlt)⟩
        rw [mkToG_get k0 hy] at hx
        rw [hy, hx]
      have hl1 : x.rows.length = m1 := o1.len_
      have hnx : nextGp K x = endG k0 (l.take (j + 1)) := by rw [take_at hlj, endG_snoc, ← HKj.out]
      have hKm : K + 2 + 2 * m1 ≤ 16777216 := by
        have h3 := HE.out (j + 1)
        rw [← hnx] at h3
        unfold nextGp at h3
        have := HK.out
        omega
      have hm1 : m1 ≤ 1048576 := by have := totalG_mem (List.mem_of_getElem? hlj); have := HN.out; unfold bulkG at *; omega
      have lx : ∀ y : Gp, ((mkToG l k0 j).set j y)[j]? = some y := fun y => set_eq (by rw [mkToG_len, HL.out]; exact hlt)
      have hjv : j < vs'.length := (List.getElem?_eq_some_iff.1 hr).1
      have lr : ∀ y : List D, (vs'.set j y)[j]? = some y := fun y => set_eq hjv
      have s1 := h1.setAt hx hr (K : Int) (nat_ok (by omega))
      have s2 := s1.setTo (lx _) (lr _) ((K : Int) + 1) ⟨by omega, by omega⟩
      rw [List.set_set, List.set_set] at s2
      have HJ := Lib.hid hlj
      have HR := Lib.hid hr
      have HLX := Lib.hid lx
      have HLR := Lib.hid lr
      have HNX := Lib.hid hnx
      have HH1 := Lib.hid h1
      have HL1 := Lib.hid hl1
      have HS2 := Lib.hid s2
      have O12 := Lib.hid (s2.rowsAt (lx _) (lr _))
      clear hlj hr hx lx lr hnx h1 s1 s2 hl1 o1 hmc1 hok hjv
      go_wp2_with fail
      rw [show ((K : Int) + 1 + 1) = ((K + 2 : Nat) : Int) from by omega]
      refine (markRowS_any a1 m1 c1 base (K + 2) x.rows _ O12.out hm1 (by omega)).mono ?_
      rintro e w1 ⟨rfl, p1, g1⟩
      have s3 := HS2.out.renewRows (HLX.out _) (HLR.out _) g1 p1
      rw [List.set_set, List.set_set] at s3
      dsimp only at s3
      have s7 : OwnGp w1 base (.slice (some ⟨g, 0, none⟩) n cap) (mkToG l k0 (j + 1)) (vs'.set j (gpRow (markGp K x) (.slice a1 m1 c1))) := by
        have e : (⟨(K : Int), (K : Int) + 1, marksR (K + 2) m1⟩ : Gp) = markGp K x := by
          unfold markGp; rw [HL1.out]
        rw [← mkToG_set k0 HJ.out, ← HKj.out, ← e]
        exact s3
      have hwr : Wrote (BlkR (.slice (some ⟨g, 0, none⟩) n cap) vs) w w1 :=
        ((h2.trans (Wrote.set (fun i => i = g) wr ⟨g, j * 3, none⟩ _ rfl) (fun i _ e => by rw [e]; exact BlkR.of_self)).trans (Wrote.set (fun i => i = g) _ ⟨g, j * 3 + 1, none⟩ _ rfl) (fun i _ e => by rw [e]; exact BlkR.of_self)).trans g1 (fun i _ e => (blkG_same HV.out i).1 (HH1.out.blkRows HR.out e))
      have HBL := Lib.hid ((blocks_grow (y := markGp K x) HR.out).trans HV.out)
      have HE2 := Lib.hid (show K + 2 + 2 * m1 = endG k0 (l.take (j + 1)) by rw [← HNX.out]; unfold nextGp; rw [HL1.out])
      clear s3 d0 d1 d2 hfz g1 p1
      go_wp2
      go_roundw
      case rel => exact ⟨j + 1, K + 2 + 2 * m1, by go_num, rfl, HE2.out, by omega, ⟨_, s7, HBL.out⟩, hwr⟩
      case measure => simp [intOf]; omega
    · have hf := Lib.hid (mkToG_all l k0 (i := j) (by rw [HL.out]; omega))
      have hf2 : K = endG k0 l := by rw [HKj.out, List.take_of_length_le (by rw [HL.out]; omega)]
      have HF2 := Lib.hid hf2
      clear hf2
      go_wp2
      go_ret
      exact ⟨ret_int (by rw [HF2.out]), ⟨vs', by rw [← hf.out]; exact h1⟩, h2⟩

set_option maxHeartbeats 4000000 in
set_option maxRecDepth 100000 in
theorem heldGroupS_any (A : Option Addr) (n cap k0 : Nat) (l : List Gp) (w : World) (ho : Gps w A n (marksGp k0 l)) (hn : l.length + totalG l ≤ 1048576) (hk : k0 + 2 * l.length + 2 * totalG l ≤ 16777216) :
    Calls Try.prog 20 #[.slice A n cap, .int .i64 k0] w fun e w' => e = .returned (.int .i64 ((endG k0 l : Nat) : Int)) ∧ Below w.heap.size w w' := by
  have HL := Lib.hid (show l.length = n by rw [← ho.len, marksGp_len])
  have HE := Lib.hid (fun i => endG_take_le l i k0)
  have HN := Lib.hid hn
  have HK := Lib.hid hk
  have hn1 : n ≤ 1048576 := by rw [← HL.out]; omega
  clear hn hk
  go_enter Try.func20, Try.ntmps20
  go_wp2
  go_loopw [1, 5] (fun q i w' => ∃ j K : Nat, i = .int .i64 j ∧ q = .int .i64 (K : Int) ∧ Hid (K = endG k0 (l.take j)) ∧ j ≤ n ∧ Below w.heap.size w w') (fun _ i _ => n - (intOf i).toNat)
  case atStart => exact ⟨0, k0, rfl, rfl, rfl, by omega, Below.refl _ _⟩
  case round =>
    obtain ⟨j, K, rfl, rfl, HKj, hj, hb⟩ := hrel
    by_cases hlt : j < n
    · obtain ⟨b, off, A1, m1, c1, y, rfl, hy, d0, d1, d2, hs1, hmc1, hok⟩ := (ho.below hb).at_ hlt
      obtain ⟨x, hlj⟩ : ∃ x, l[j]? = some x := ⟨_, List.getElem?_eq_getElem (show j < l.length by rw [HL.out]; exact hlt)⟩
      have hy2 : y = markGp K x := by rw [marksGp_get k0 hlj, ← HKj.out] at hy; injection hy with hy; exact hy.symm
      subst hy2
      have hl1 : m1 = x.rows.length := by rw [← hs1.len]; exact marksR_len _ _
      have hnx : nextGp K x = endG k0 (l.take (j + 1)) := by rw [take_at hlj, endG_snoc, ← HKj.out]
      have hKm : K + 2 + 2 * m1 ≤ 16777216 := by
        have h3 := HE.out (j + 1)
        rw [← hnx] at h3
        unfold nextGp at h3
        have := HK.out
        omega
      have hm1 : m1 ≤ 1048576 := by have := totalG_mem (List.mem_of_getElem? hlj); have := HN.out; unfold bulkG at *; omega
      have hs1' : Rws wr A1 m1 (marksR (K + 2) m1) := by rw [hl1] at hs1 ⊢; exact hs1
      have HE2 := Lib.hid (show K + 2 + 2 * m1 = endG k0 (l.take (j + 1)) by rw [← hnx]; unfold nextGp; rw [hl1])
      have k0' : wr.cell? ⟨b, off + j * 3, none⟩ = some (.int .i64 (K : Int)) := d0
      have k1' : wr.cell? ⟨b, off + j * 3 + 1, none⟩ = some (.int .i64 ((K : Int) + 1)) := d1
      clear hlj hy hs1 hl1 hnx d0 d1 hok
      have hq0 : ((K : Int) != (K : Int)) = false := by simp
      have hq1 : ((K : Int) + 1 != (K : Int) + 1) = false := by simp
      go_wp2_with fail
      rw [show ((K : Int) + 1 + 1) = ((K + 2 : Nat) : Int) from by omega]
      refine (heldRowS_any A1 m1 c1 (K + 2) _ hs1' hm1 (by omega)).mono ?_
      rintro e w1 ⟨rfl, b1⟩
      have hz : decide ((((K + 2 + 2 * m1 : Nat) : Int)) < 0) = false := by simp; omega
      go_wp2
      go_roundw
      case rel => exact ⟨j + 1, K + 2 + 2 * m1, by go_num, rfl, HE2.out, by omega, hb.next b1⟩
      case measure => simp [intOf]; omega
    · have hf2 : K = endG k0 l := by rw [HKj.out, List.take_of_length_le (by rw [HL.out]; omega)]
      have HF2 := Lib.hid hf2
      clear hf2
      go_wp2
      go_ret
      exact ⟨ret_int (by rw [HF2.out]), hb⟩

/-- A group by value: its rows are marked. -/
theorem markGroup_any (A : Option Addr) (m c base k0 : Nat) (x : Gp) (w : World) (ho : OwnRw w base (.slice A m c) x.rows) (hn : m ≤ 1048576) (hk : k0 + 2 * m ≤ 16777216) :
    Calls Try.prog 30 #[.agg #[.int .i64 x.at_, .int .i64 x.to_, .slice A m c], .int .i64 k0] w fun e w' => e = .returned (.int .i64 ((k0 + 2 * m : Nat) : Int)) ∧ OwnRw w' base (.slice A m c) (marksR k0 m) ∧ Wrote (fun i => (Value.slice A m c).ownBlock = some i) w w' := by
  go_enter Try.func30, Try.ntmps30
  go_wp2_with fail
  refine (markRowS_any A m c base k0 x.rows _ (ho.below (below_alloc _ _)) hn hk).mono ?_
  rintro e w1 ⟨rfl, p1, g1⟩
  obtain ⟨K, HK⟩ : ∃ K : Nat, Hid (k0 + 2 * m = K) := ⟨_, rfl⟩
  rw [HK.out]
  go_wp2
  go_ret
  exact ⟨ret_int (by rw [HK.out]), p1, (Wrote.of_below (below_alloc _ _)).trans g1 (fun _ _ e => e)⟩

end Go.Proofs.Ytgohaemmnpifbaa
