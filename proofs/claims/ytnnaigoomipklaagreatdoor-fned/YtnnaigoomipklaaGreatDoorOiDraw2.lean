/-
  A drawn text that is like another one, and what is drawn of it.
  Lines and hunks drawn together.
  What a cell of one's own rows leads to is another datum by now.
  Orders that are drawn.
-/
import Derived.Test.YtnnaigoomipklaaGreatDoorOiPart
import Derived.Test.YtnnaigoomipklaaGreatDoorOiWhole
import Derived.Test.YtnnaigoomipklaaGreatDoorOiDraw
import Derived.Deep.RegionLaw
import Derived.Test.YtnnaigoomipklaaGreatDoorOiHDrawAB
import Derived.Test.YtnnaigoomipklaaGreatDoorOiHMems
import Derived.Test.YtnnaigoomipklaaGreatDoorOiURows
import Derived.Test.YtnnaigoomipklaaGreatDoorOiOMem
import Derived.Test.YtnnaigoomipklaaGreatDoorOiOEdS
import Derived.Deep.DeepCutAuto
set_option linter.unusedSimpArgs false
set_option linter.unusedVariables false
namespace Go.Proofs.YtnnaigoomipklaaGreatDoor
open Go.RowKit M

/-- Texts that are not empty, and of at most S bytes. -/
def Fine (S : Nat) (l : List ByteArray) : Prop := ∀ s ∈ l, 1 ≤ s.size ∧ s.size ≤ S

end Go.Proofs.YtnnaigoomipklaaGreatDoor

namespace Go.Proofs.YtnnaigoomipklaaGreatDoor
open Go.RowKit M

set_option maxHeartbeats 1000000 in
theorem hunked_any (g M : Nat) (w : World) (h : Curs w g M) (hM : M ≤ 700000) :
    Calls Tryz.prog 136 #[.pointer (some ⟨g, 0, none⟩)] w fun e w' => ∃ A n c l A2 n2 c2 out vs B, e = .returned (.tuple #[.slice A n c, .slice A2 n2 c2]) ∧ OwnV w' w.heap.size (.slice A n c) l ∧ n ≤ c ∧ n ≤ 9 ∧ (∀ s ∈ l, s.size ≤ 8) ∧ (∀ s, l.getLast? = some s → 1 ≤ s.size) ∧
      w.heap.size ≤ B ∧ (∀ b, (Value.slice A n c).ownBlock = some b → b < B) ∧ OwnH w' B (.slice A2 n2 c2) out vs ∧ n2 ≤ 6 ∧ (∀ x ∈ out, smallA x) ∧ Curs w' g (M + 800) ∧ w.grownBy w' (some g) := by
  have hlt := h.lt
  go_enter Tryz.func136, Tryz.ntmps136
  go_wp2_with fail
  refine (anyText2_any g M _ h (by omega)).mono ?_
  rintro e w1 ⟨v, l, rfl, o1, hl, hsm, hla, c1, g1⟩
  obtain ⟨n, HN⟩ : ∃ n, Hid (l.length = n) := ⟨_, rfl⟩
  obtain ⟨A, cap, rfl, hn1, hn2⟩ := o1.form HN.out
  have hn9 : n ≤ 9 := by rw [← HN.out]; exact hl
  have HSM := Lib.hid hsm
  have HLA := Lib.hid hla
  have HLT := Lib.hid (show ∀ b, (Value.slice A n cap).ownBlock = some b → b < w1.heap.size from fun b e => (o1.lt e).2)
  clear hl hsm hla
  go_wp2_with fail
  refine (anyHunks_any g _ A n cap l _ c1 (by omega) o1.strs (fun x e => by
    cases A with
    | none => cases e
    | some ad =>
      injection e with e
      subst e
      have := (o1.lt (g := ad.block) rfl).1
      omega) (by omega) HLA.out).mono ?_
  rintro e w2 ⟨v2, out, vs, rfl, o2, hlen, hsa, c2, g2⟩
  obtain ⟨n2, HN2⟩ : ∃ n2, Hid (out.length = n2) := ⟨_, rfl⟩
  obtain ⟨A2, cap2, rfl, hn21, hn22⟩ := o2.form HN2.out
  have HSA := Lib.hid hsa
  clear hsa
  go_wp2
  go_ret2
  refine ⟨A, n, cap, l, A2, n2, cap2, out, vs, w1.heap.size, rfl, ?_, hn1, hn9, HSM.out, HLA.out, g1.size, HLT.out, o2, by rw [← HN2.out]; exact hlen, HSA.out, c2.more (by omega), g1.trans g2⟩
  exact o1.kept g2 (fun b e h => by injection e with e; have := (o1.lt h).1; omega)

/-- What the draws of lines and hunks answer. -/
def DrewLH (w w' : World) (A : Option Addr) (n c : Nat) (l : List ByteArray) (A2 : Option Addr) (n2 c2 : Nat) (hs : List Hk) : Prop :=
  Strs w' A n l ∧ n ≤ c ∧ n ≤ 9 ∧ (∀ s ∈ l, s.size ≤ 8) ∧ Hks w' A2 n2 hs ∧ n2 ≤ c2 ∧ n2 ≤ 6 ∧ (∀ x ∈ hs, smallA x) ∧ Below w.heap.size w w'

set_option maxHeartbeats 1000000 in
theorem DrawPatch_any (a : Option Addr) (n c : Nat) (w : World) (h : Bytes w a n) (hn : n ≤ 1048576) :
    Calls Tryz.prog 74 #[.slice a n c] w fun e w' => ∃ A n1 c1 l A2 n2 c2 hs, e = .returned (.tuple #[.slice A n1 c1, .slice A2 n2 c2]) ∧ DrewLH w w' A n1 c1 l A2 n2 c2 hs := by
  have c0 := Curs.new (c := c) h hn
  go_enter Tryz.func74, Tryz.ntmps74
  go_wp2_with fail
  refine (hunked_any _ 0 _ c0 (by omega)).mono ?_
  rintro e w1 ⟨A, n1, c1, l, A2, n2, c2, out, vs, B, rfl, o1, h1, h2, h3, h4, h5, h6, o2, h7, h8, c3, g1⟩
  obtain ⟨_, _, e2, hc2, _⟩ := o2.form o2.hks.len
  injection e2 with e2 e3 e4
  have H3 := Lib.hid h3
  have H8 := Lib.hid h8
  have HD := Lib.hid (show DrewLH w w1 A n1 c1 l A2 n2 c2 out from ⟨o1.strs, h1, h2, h3, o2.hks, by omega, h7, h8, below_new g1⟩)
  clear h3 h4 h6 h8 o1 o2 e2 e3 e4
  go_wp2
  go_ret2
  exact ⟨A, n1, c1, l, A2, n2, c2, out, rfl, HD.out⟩

end Go.Proofs.YtnnaigoomipklaaGreatDoor

namespace Go.Proofs.YtnnaigoomipklaaGreatDoor
open Go.RowKit M

theorem D.blocksL_at : ∀ {cs : List D} {g : Nat}, g ∈ D.blocksL cs → ∃ (p : Nat) (d : D), cs[p]? = some d ∧ g ∈ d.blocks
  | [], g, h => by simp [D.blocksL] at h
  | c :: r, g, h => by
    rw [D.blocksL, List.mem_append] at h
    rcases h with h | h
    · exact ⟨0, c, rfl, h⟩
    · obtain ⟨p, d, h1, h2⟩ := D.blocksL_at h
      exact ⟨p + 1, d, by simpa using h1, h2⟩
theorem setCell_twice (w : World) (blk off : Nat) (v v' : Value) : (w.setCell ⟨blk, off, none⟩ v).setCell ⟨blk, off, none⟩ v' = w.setCell ⟨blk, off, none⟩ v' := by
  unfold World.setCell
  simp only [World.mk.injEq, true_and, and_true]
  apply Array.ext_getElem?
  intro i
  simp only [Array.getElem?_modify]
  split
  · cases w.heap[i]? with
    | none => rfl
    | some o => cases o <;> simp
  · rfl
theorem heap_set_like {w w' : World} {p : Addr} {u : Value} {k : Nat} (h : w'.heap[k]? = w.heap[k]?) : (w'.setCell p u).heap[k]? = (w.setCell p u).heap[k]? := by
  unfold World.setCell
  simp only [Array.getElem?_modify, h]
theorem Wrote.set2 {S : Nat → Prop} {w w' : World} (p : Addr) (u : Value) (h : Wrote S w w') : Wrote S (w.setCell p u) (w'.setCell p u) :=
  ⟨h.os, h.tape, h.output, by simpa [World.setCell] using h.size, fun k hk hn => heap_set_like (h.block k (by simpa [World.setCell] using hk) hn)⟩

/-- What a cell leads to is another datum by now, in the blocks that it had or in new ones. -/
theorem OwnR.turn {w w' : World} {base n cap g k j sz : Nat} {t : TypeId} {rows : List (List D)} {r : List D} {d d' : D} (h : OwnR w base (.slice (some ⟨g, 0, none⟩) n cap) t sz rows) (hk : rows[k]? = some r) (hj : r[j]? = some d) (hw : Wrote (fun i => i ∈ d.blocks) w w') (hd : Owns w' base d') (hf : ∀ i ∈ d'.blocks, i ∈ d.blocks ∨ w.heap.size ≤ i) :
    OwnR (w'.setCell ⟨g, k * sz + j, none⟩ d'.val) base (.slice (some ⟨g, 0, none⟩) n cap) t sz (rows.set k (r.set j d')) := by
  have hr := h.wide r (List.mem_of_getElem? hk)
  have hjr : j < r.length := (List.getElem?_eq_some_iff.1 hj).1
  have hkr : k < rows.length := (List.getElem?_eq_some_iff.1 hk).1
  have hj2 : j < sz := by rw [← hr]; exact hjr
  have s0 := h.put hk hj2 (d' := .lit (.int .i64 0)) (Owns.lit rfl) (fun i hi => by simp [D.blocks] at hi)
  have hsa := h.self_apart hk hj
  have hglt := (h.lt (BlkR.of_self (g := g))).2
  have hat : rows.flatten[k * sz + j]? = some d := by rw [flat_get h.wide hk hj2]; exact hj
  have hnd : (D.blocksL rows.flatten).Nodup := by
    have := h.own.nodup
    rw [D.blocks, List.nodup_append] at this
    exact this.2.1
  have hno : ∀ i, BlkR (.slice (some ⟨g, 0, none⟩) n cap) (rows.set k (r.set j (.lit (.int .i64 0)))) i → i ∉ d.blocks := by
    intro i hi hd
    rcases List.mem_append.1 hi with h1 | h1
    · simp [Value.ownBlock] at h1
      subst h1
      exact hsa hd
    · rw [← flat_set h.wide hk hj2] at h1
      obtain ⟨q, e, h2, h3⟩ := D.blocksL_at h1
      rcases set_get h2 with ⟨h4, h5⟩ | ⟨h4, h5⟩
      · rw [h5] at h3; simp [D.blocks] at h3
      · exact nodup_at hnd hat h5 h4 i hd h3
  have s1 := s0.wrote (hw.set2 ⟨g, k * sz + j, none⟩ (.int .i64 0)) (fun i hi => hno i hi)
  have s2 := s1.put (k := k) (r := r.set j (.lit (.int .i64 0))) (set_eq hkr) hj2 (d' := d') (hd.wrote (Wrote.set (fun i => i = g) w' ⟨g, k * sz + j, none⟩ (.int .i64 0) rfl) (fun i hi e => by
      rcases hf i hi with h1 | h1
      · rw [e] at h1; exact hsa h1
      · omega)) (fun i hi hb => by
      rcases hf i hi with h1 | h1
      · exact hno i hb h1
      · rcases blk_set h.wide hk hj2 hb with e | e
        · have := (h.lt e).2; omega
        · simp [D.blocks] at e)
  rw [List.set_set, List.set_set, setCell_twice] at s2
  exact s2

end Go.Proofs.YtnnaigoomipklaaGreatDoor

namespace Go.Proofs.YtnnaigoomipklaaGreatDoor
open Go.RowKit Go.ChangeShapes Go.WideShapes M

theorem wrap_okO (z : Int) : i64ok (IntKind.i64.wrap z) := by
  have := IntKind.wrap_i64 z
  unfold i64ok
  rw [this]
  omega
theorem cell_past3O {w w' : World} {row : Option Nat} {b o : Nat} {x : Value} (hg : w.grownBy w' row) (h : w.cell? ⟨b, o, none⟩ = some x) (hne : row ≠ some b) : w'.cell? ⟨b, o, none⟩ = some x := hg.cell h (fun e => hne e.symm)

section
variable {w w' : World} {base n cap g k : Nat} {p : List Od} {rows : List (List D)} {x : Od} {u u' : Value}
theorem OwnOd.turnNew (h : OwnOd w base (.slice (some ⟨g, 0, none⟩) n cap) p rows) (hx : p[k]? = some x) (hr : rows[k]? = some (odRow x u)) (hw : w.grownBy w' u.ownBlock) {r : List ByteArray} (ho : OwnV w' base u' r) (ha : u'.ownBlock = u.ownBlock ∨ ∀ b, u'.ownBlock = some b → w.heap.size ≤ b) :
    OwnOd (w'.setCell ⟨g, k * 4 + 3, none⟩ u') base (.slice (some ⟨g, 0, none⟩) n cap) (p.set k { x with new := r }) (rows.set k (odRow { x with new := r } u')) := by
  have hok := h.ok x (List.mem_of_getElem? hx)
  refine h.reset hx (h.own.turn hr (j := 3) (d := textsD u x.new) (d' := textsD u' r) rfl (Wrote.of_grown hw (fun i e => by rw [textsD_blocks]; simp [e])) ho.datum (fun i hi => ?_)) _ ⟨u', rfl⟩ ⟨hok.kd, hok.fr, hok.to_, ho.small⟩
  rw [textsD_blocks] at hi ⊢
  rcases ha with ha | ha
  · rw [ha] at hi; exact .inl hi
  · exact .inr (ha i (by simpa using hi))
theorem OwnOd.keptg {v : Value} (h : OwnOd w base v p rows) (hg : w.grownBy w' (some g)) (hb : g < base) : OwnOd w' base v p rows :=
  h.wrote (Wrote.of_grown (S := fun i => i = g) hg (fun k e => (Option.some.inj e).symm)) (fun i hi e => by have := (h.lt hi).1; omega)
end

theorem fixO_new : ∀ (l : List ByteArray) (a : Nat), ∀ y ∈ fixO a l, y.new = []
  | [], a, y, h => by simp [fixO] at h
  | s :: l, a, y, h => by
    unfold fixO at h
    split at h
    · rcases List.mem_cons.1 h with h | h
      · rw [h]
      · exact fixO_new l _ y h
    · exact fixO_new l _ y h
theorem edO_small : ∀ {hs : List Hk}, (∀ x ∈ hs, x.new.length ≤ 3) → (edO hs).length ≤ 4 * hs.length ∧ ∀ y ∈ edO hs, y.new.length ≤ 3
  | [], _ => ⟨by simp [edO], fun y h => by simp [edO] at h⟩
  | x :: hs, h => by
    obtain ⟨h1, h2⟩ := edO_small (hs := hs) (fun y hy => h y (by simp [hy]))
    have h3 := h x (by simp)
    have h4 := fixO_len x.new x.at_.toNat
    refine ⟨?_, fun y hy => ?_⟩
    · rw [edO, List.length_append, edOne, List.length_cons, List.length_cons]; omega
    · rw [edO, List.mem_append] at hy
      rcases hy with hy | hy
      · exact h2 y hy
      · unfold edOne at hy
        rcases List.mem_cons.1 hy with hy | hy
        · rw [hy]; unfold mainO; simpa using h3
        · rw [fixO_new _ _ y hy]; simp
theorem edOrders_small {l : List ByteArray} {hs : List Hk} (h : ∀ x ∈ hs, x.new.length ≤ 3) (hn : hs.length ≤ 6) : (edOrders l hs).1.length ≤ 24 ∧ ∀ y ∈ (edOrders l hs).1, y.new.length ≤ 4 := by
  unfold edOrders
  split
  · obtain ⟨h1, h2⟩ := edO_small h
    exact ⟨by show (edO hs).length ≤ 24; omega, fun y hy => by have := h2 y hy; omega⟩
  · exact ⟨by simp, fun y hy => by simp at hy⟩

theorem all_snocO {α : Type} {P : α → Prop} {l : List α} {t : α} (h : ∀ s ∈ l, P s) (ht : P t) : ∀ s ∈ l ++ [t], P s := fun s hs => by
  rcases List.mem_append.1 hs with e | e
  · exact h s e
  · simp at e; rw [e]; exact ht
/-- Between two draws: the orders of one's own, the text of one's own ahead of them. -/
structure DrwO (w wx : World) (g B M N : Nat) (v vl : Value) (l : List ByteArray) : Prop where
  ex : ∃ p rows, OwnOd wx B v p rows ∧ p.length ≤ 24 ∧ ∀ x ∈ p, x.new.length ≤ N
  cur : Curs wx g M
  grown : w.grownBy wx (some g)
  own : OwnV wx w.heap.size vl l
  ahead : ∀ b, vl.ownBlock = some b → b < B
  far : w.heap.size ≤ B
  past : g < B
  now : B ≤ wx.heap.size

set_option maxHeartbeats 40000000 in
set_option maxRecDepth 100000 in
theorem orders_any (g M : Nat) (w : World) (h : Curs w g M) (hM : M ≤ 800000) :
    Calls Tryz.prog 67 #[.pointer (some ⟨g, 0, none⟩)] w fun e w' => ∃ vl l v p rows, e = .returned (.tuple #[vl, v]) ∧ OwnV w' w.heap.size vl l ∧ l.length ≤ 9 ∧ Fine 8 l ∧ OwnOd w' w.heap.size v p rows ∧ p.length ≤ 24 ∧ (∀ x ∈ p, x.new.length ≤ 5) ∧ Curs w' g (M + 700) ∧ w.grownBy w' (some g) := by
  have hlt := h.lt
  go_enter Tryz.func67, Tryz.ntmps67
  go_wp2_with fail
  refine (text2_any g M _ h (by omega)).mono ?_
  rintro e w1 ⟨vl, l, rfl, ol1, hll, hls, c1, g1⟩
  obtain ⟨nl, Hnl⟩ : ∃ nl, Hid (l.length = nl) := ⟨_, rfl⟩
  obtain ⟨Al, cl, hve, hcl, _⟩ := ol1.form Hnl.out
  subst hve
  have hnl : nl ≤ 9 := by rw [← Hnl.out]; exact hll
  have HLS := Lib.hid hls
  have HAG : ∀ x, Al = some x → x.block ≠ g := fun x e => by
    cases Al with
    | none => cases e
    | some ad =>
      injection e with e
      subst e
      have := (ol1.lt (g := ad.block) rfl).1
      omega
  clear hls hll
  have h1lt := c1.lt
  go_wp2_with fail
  refine (hunks_any g _ Al nl cl l _ c1 (by omega) ol1.strs HAG (by omega) (fun s hs => (HLS.out s (List.mem_of_getLast? hs)).2)).mono ?_
  rintro e w2 ⟨vh, hs, vsh, rfl, oh2, hhl, hsm, c2, g2⟩
  obtain ⟨nh, Hnh⟩ : ∃ nh, Hid (hs.length = nh) := ⟨_, rfl⟩
  obtain ⟨Ah, ch, hve, hch, _⟩ := oh2.form Hnh.out
  subst hve
  have ol2 := ol1.kept g2 (fun b e e2 => by have := (ol1.lt e2).1; injection e with e; omega)
  have HNS := Lib.hid (edOrders_small (l := l) (hs := hs) (fun x hx => (hsm x hx).2.2.2.2.1) hhl)
  have HSM := Lib.hid (show ∀ x ∈ hs, x.new.length ≤ 1048576 from fun x hx => by have := (hsm x hx).2.2.2.2.1; omega)
  clear hsm hhl
  have G2 := g1.trans g2
  go_wp2_with fail
  refine (specEdOrders_any Al nl cl l Ah nh ch hs _ ol2.strs hcl oh2.hks HSM.out (by omega)).mono ?_
  rintro e w3 ⟨v, rows, rfl, o3, b3⟩
  obtain ⟨P, ok, HP⟩ : ∃ P ok, Hid (edOrders l hs = (P, ok)) := ⟨_, _, rfl⟩
  rw [HP.out] at o3 ⊢
  have hns := HNS.out
  rw [HP.out] at hns
  dsimp only at o3 hns ⊢
  obtain ⟨hpl, hps⟩ := hns
  have HO3 := Lib.hid o3
  have HOL := Lib.hid (ol2.below b3)
  have HG3 := Lib.hid (grown_below G2 b3)
  have HC3 := Lib.hid (c2.below b3)
  have HB := Lib.hid (show ∀ b, (Value.slice Al nl cl).ownBlock = some b → b < w2.heap.size from fun b e => (ol2.lt e).2)
  have hB2 := G2.size
  have hgB : g < w2.heap.size := c2.lt
  have HBN := Lib.hid (show w2.heap.size ≤ w3.heap.size from b3.size)
  obtain ⟨B, hBe⟩ : ∃ B, w2.heap.size = B := ⟨_, rfl⟩
  rw [hBe] at HO3 HB hB2 hgB HBN
  have HPL := Lib.hid hpl
  have HPS := Lib.hid hps
  clear hps hpl HP HNS HSM o3 b3 ol1 ol2 oh2 c1 c2 g1 g2 G2 hBe
  go_wp2_with fail
  refine (one_any g _ 3 _ HC3.out (by omega) (by omega)).mono ?_
  rintro e w4 ⟨b, rfl, c4, g4⟩
  have HO4 := Lib.hid (HO3.out.keptg g4 hgB)
  have HL4 := Lib.hid (HOL.out.kept g4 (fun b e e2 => by injection e with e; have := (HOL.out.lt e2).1; omega))
  have HG4 := Lib.hid (HG3.out.trans g4)
  have HC4 := Lib.hid c4
  have HBN4 := Lib.hid (show B ≤ w4.heap.size from Nat.le_trans HBN.out g4.size)
  clear c4 g4 HO3 HOL HG3 HC3 HBN
  go_upto_if 22 with fail
  go_cut [5] (fun ov wx => DrwO w wx g B (M + 660) 4 ov (.slice Al nl cl) l)
  case first => as_aux_lemma =>
    cases b with
    | false =>
      go_wp2
      go_meet
      case rel => exact ⟨⟨_, _, HO4.out, HPL.out, HPS.out⟩, HC4.out.more (by omega), HG4.out, HL4.out, HB.out, hB2, hgB, HBN4.out⟩
    | true =>
      go_wp2_with fail
      refine (pick_any g _ 4 _ HC4.out (by omega) (by omega)).mono ?_
      rintro e w5 ⟨k0, rfl, hk0, hk1, c5, g5⟩
      obtain ⟨k0, rfl⟩ := Int.eq_ofNat_of_zero_le hk0
      have hk3 : k0 ≤ 3 := by omega
      have HG5 := Lib.hid (HG4.out.trans g5)
      have HC5 := Lib.hid c5
      have HL5 := Lib.hid (HL4.out.kept g5 (fun b e e2 => by injection e with e; have := (HL4.out.lt e2).1; omega))
      have HBN5 := Lib.hid (show B ≤ w5.heap.size from Nat.le_trans HBN4.out g5.size)
      clear hk0 hk1 c5 g5 HO4 HG4 HC4 HL4 HPL HPS
      go_wp2
      go_loopw [5, 7] (fun ov nv w' => ∃ (k : Nat) (v : Value) (p : List Od) (rows : List (List D)), nv = .int .i64 k ∧ v = ov ∧ k ≤ 3 ∧ OwnOd w' B v p rows ∧ Hid (p.length + k ≤ 3) ∧ Hid (∀ x ∈ p, x.new.length ≤ 4) ∧ Hid (Curs w' g (M + 634 + 8 * (3 - k))) ∧ Hid (w.grownBy w' (some g)) ∧ Hid (OwnV w' w.heap.size (.slice Al nl cl) l) ∧ Hid (B ≤ w'.heap.size)) (fun _ nv _ => (intOf nv).toNat)
      case atStart => exact ⟨k0, .slice none 0 0, [], [], rfl, rfl, hk3, OwnOd.nil_, Lib.hid (by simpa using hk3), Lib.hid (fun x hx => by simp at hx), Lib.hid (HC5.out.more (by omega)), HG5, HL5, HBN5⟩
      case round =>
        obtain ⟨k, v, p, rows, rfl, rfl, hk, ho, HPL, HPS, HC, HG, HL, HNW⟩ := hrel
        have HO := Lib.hid ho
        clear ho
        by_cases h0 : k = 0
        · have q0 : decide (0 < k) = false := by simp; omega
          go_wp2
          go_meet
          case rel => exact ⟨⟨p, rows, HO.out, by have := HPL.out; omega, HPS.out⟩, HC.out.more (by omega), HG.out, HL.out, HB.out, hB2, hgB, HNW.out⟩
        · have q0 : decide (0 < k) = true := by simp; omega
          have hwk : IntKind.i64.wrap ((k : Int) - 1) = ((k - 1 : Nat) : Int) := by rw [IntKind.wrap_i64]; omega
          go_wp2_with fail
          refine (pick_any g _ 6 _ HC.out (by omega) (by omega)).mono ?_
          rintro e w6 ⟨f, rfl, hf0, hf1, c6, g6⟩
          have hf5 : f ≤ 5 := by omega
          clear hf1
          have HO6 := Lib.hid (HO.out.keptg g6 hgB)
          have HG6 := Lib.hid (HG.out.trans g6)
          have HL6 := Lib.hid (HL.out.kept g6 (fun b e e2 => by injection e with e; have := (HL.out.lt e2).1; omega))
          have HC6 := Lib.hid c6
          have HNW6 := Lib.hid (Nat.le_trans HNW.out g6.size)
          clear c6 g6
          go_wp2_with fail
          refine (pick_any g _ 5 _ HC6.out (by omega) (by omega)).mono ?_
          rintro e w7 ⟨z, rfl, hz0, hz1, c7, g7⟩
          have hz4 : z ≤ 4 := by omega
          obtain ⟨kd, hkd⟩ : ∃ kd, kd = 1 + z := ⟨_, rfl⟩
          have hw1 : IntKind.i64.wrap (1 + z) = kd := by rw [IntKind.wrap_i64]; omega
          have hkd1 : 1 ≤ kd := by omega
          have hkd5 : kd ≤ 5 := by omega
          have HO7 := Lib.hid (HO6.out.keptg g7 hgB)
          have HG7 := Lib.hid (HG6.out.trans g7)
          have HL7 := Lib.hid (HL6.out.kept g7 (fun b e e2 => by injection e with e; have := (HL6.out.lt e2).1; omega))
          have HC7 := Lib.hid c7
          have HNW7 := Lib.hid (Nat.le_trans HNW6.out g7.size)
          obtain ⟨gx, HGX⟩ : ∃ gx, Hid (gx = w7.heap.size) := ⟨_, rfl⟩
          obtain ⟨YW, HYW⟩ : ∃ YW, Hid (YW = w7.alloc (.cells #[.int .i64 kd, .int .i64 f, .int .i64 f, .slice none 0 0] 78)) := ⟨_, rfl⟩
          have HYB := Lib.hid (show YW.heap[gx]? = some (.cells #[.int .i64 kd, .int .i64 f, .int .i64 f, .slice none 0 0] 78 (0, 0)) by rw [HYW.out, HGX.out]; exact heap_at rfl)
          have BY := Lib.hid (show Below w7.heap.size w7 YW by rw [HYW.out]; exact below_alloc _ _)
          clear c7 g7 HO6 HG6 HL6 HC6 HNW6 HO HG HL HC HNW hz0 hz1 hz4 hkd
          go_upto_region 10 with fail
          rw [← HYW.out, ← HGX.out]
          have HOY := Lib.hid (HO7.out.below BY.out)
          have HGY := Lib.hid (grown_below HG7.out BY.out)
          have HLY := Lib.hid (HL7.out.below BY.out)
          have HCY := Lib.hid (HC7.out.below BY.out)
          have hgx : g < gx := by rw [HGX.out]; exact HC7.out.lt
          have hBx : B ≤ gx := by rw [HGX.out]; exact HNW7.out
          have NGX := Lib.hid (show some gx ≠ some g from fun e => by injection e with e; omega)
          have NXG := Lib.hid (show some g ≠ some gx from fun e => by injection e with e; omega)
          have hwx : w.heap.size ≤ gx := by omega
          have y0 : YW.cell? ⟨gx, 0, none⟩ = some (.int .i64 kd) := by have := HYB.out; simp [World.cell?, this]
          have y2 : YW.cell? ⟨gx, 2, none⟩ = some (.int .i64 f) := by have := HYB.out; simp [World.cell?, this]
          have y3 : YW.cell? ⟨gx, 3, none⟩ = some (.slice none 0 0) := by have := HYB.out; simp [World.cell?, this]
          have fy : ∀ j, YW.frozen? ⟨gx, j, none⟩ = false := fun j => by have := HYB.out; simp [World.frozen?, this]
          have HAPX := Lib.hid (show ∀ i, BlkR v rows i → i < gx from fun i e => by rw [HGX.out]; exact (HO7.out.lt e).2)
          have HLAX := Lib.hid (show ∀ i, (Value.slice Al nl cl).ownBlock = some i → i < B from HB.out)
          have hgy : gx < YW.heap.size := (Array.getElem?_eq_some_iff.1 HYB.out).1
          clear HO7 HG7 HL7 HC7 HNW7 HYW HGX
          by_cases h3 : kd = 3
          · have q1 : (kd == 3) = true := by simp [h3]
            have q3 : decide (kd ≤ 3) = true := by simp [h3]
            clear h3
            go_wp2
            have y2d : YW.drew.cell? ⟨gx, 2, none⟩ = some (.int .i64 f) := y2
            refine wp_region_held_drew (S := fun _ => True) (by kernel_rfl) ?_ (fun hHeld => ?_)
            · exact trivial
            refine wpAnyH_take (i := 0) (v := ?_) (by simp only [List.getElem?_toArray, List.getElem?_cons_succ, List.getElem?_cons_zero]; rfl) (by kernel_rfl) (by kernel_rfl) (by kernel_rfl) (by exact fun _ _ _ h => h) (Or.inl ⟨by rfl, ?_⟩) hHeld ?_
            rotate_left 1
            · (intro w hSw; (try dsimp only at hSw); go_simp; (try with_reducible rfl))
            (try simp only [Act.put, List.setIfInBounds_toArray, List.set_cons_zero, List.set_cons_succ])
            refine wpAnyH_take (i := 2) (v := ?_) (by simp only [List.getElem?_toArray, List.getElem?_cons_succ, List.getElem?_cons_zero]; rfl) (by kernel_rfl) (by kernel_rfl) (by kernel_rfl) (by exact fun _ _ _ h => h) (Or.inl ⟨by rfl, ?_⟩) hHeld ?_
            rotate_left 1
            · (intro w hSw; (try dsimp only at hSw); go_simp; (try with_reducible rfl))
            (try simp only [Act.put, List.setIfInBounds_toArray, List.set_cons_zero, List.set_cons_succ])
            refine wpAnyH_ready (rs := [1, 3]) (by kernel_rfl) (by simp) ?_
            refine AllReadyH.cons (by simp only [List.getElem?_toArray, List.getElem?_cons_succ, List.getElem?_cons_zero]; rfl) (fun K hK => ?_) (AllReadyH.cons (by simp only [List.getElem?_toArray, List.getElem?_cons_succ, List.getElem?_cons_zero]; rfl) (fun K hK => ?_) AllReadyH.nil)
            · go_simp
              refine hK.out _ _ ?_ (fun hHeld => ?_)
              · exact trivial
              clear hK K
              (try simp only [Act.put, List.setIfInBounds_toArray, List.set_cons_zero, List.set_cons_succ])
              refine wpAnyH_ready (rs := [3]) (by kernel_rfl) (by simp) ?_
              refine AllReadyH.cons (by simp only [List.getElem?_toArray, List.getElem?_cons_succ, List.getElem?_cons_zero]; rfl) (fun K hK => ?_) AllReadyH.nil
              go_simp
              go_at_call 68
              refine (pick_any g _ 3 _ (HCY.out.below (Below.refl _ _).drew) (by omega) (by omega)).mono ?_
              rintro e w8 ⟨t, rfl, ht0, ht1, c8, g8⟩
              have hwt : IntKind.i64.wrap (f + t) = f + t := (by rw [IntKind.wrap_i64]; omega)
              have f8 : ∀ j, w8.frozen? ⟨gx, j, none⟩ = false := (fun j => (g8.frozen_far ⟨gx, j, none⟩ hgy NGX.out).trans (fy j))
              have y28 := cell_past3O g8 y2 NXG.out
              refine hK.out _ _ ?_ (fun hHeld => ?_)
              · exact trivial
              clear hK K
              (try simp only [Act.put, List.setIfInBounds_toArray, List.set_cons_zero, List.set_cons_succ])
              refine wpAnyH_take (i := 4) (v := ?_) (by simp only [List.getElem?_toArray, List.getElem?_cons_succ, List.getElem?_cons_zero]; rfl) (by kernel_rfl) (by kernel_rfl) (by kernel_rfl) (by exact fun _ _ _ h => h) (Or.inl ⟨by rfl, ?_⟩) hHeld ?_
              rotate_left 1
              · (intro w hSw; (try dsimp only at hSw); go_simp; (try with_reducible rfl))
              (try simp only [Act.put, List.setIfInBounds_toArray, List.set_cons_zero, List.set_cons_succ])
              refine wpAnyH_take (i := 5) (v := ?_) (by simp only [List.getElem?_toArray, List.getElem?_cons_succ, List.getElem?_cons_zero]; rfl) (by kernel_rfl) (by kernel_rfl) (by kernel_rfl) (by exact fun _ _ _ h => h) (Or.inl ⟨by rfl, ?_⟩) hHeld ?_
              rotate_left 1
              · (intro w hSw; (try dsimp only at hSw); go_simp; (try with_reducible rfl))
              (try simp only [Act.put, List.setIfInBounds_toArray, List.set_cons_zero, List.set_cons_succ])
              refine wpAnyH_ready (rs := [6]) (by kernel_rfl) (by simp) ?_
              refine AllReadyH.cons (by simp only [List.getElem?_toArray, List.getElem?_cons_succ, List.getElem?_cons_zero]; rfl) (fun K hK => ?_) AllReadyH.nil
              go_simp
              refine hK.out _ _ ?_ (fun hHeld => ?_)
              · exact trivial
              clear hK K
              (try simp only [Act.put, List.setIfInBounds_toArray, List.set_cons_zero, List.set_cons_succ])
              refine wpAnyH_done (by kernel_rfl) ?_ _
              clear hHeld
              obtain ⟨tw, hto⟩ : ∃ tw, tw = f + t := ⟨_, rfl⟩
              rw [← hto]
              have hto0 : 0 ≤ tw := by omega
              have hto9 : tw ≤ 9 := by omega
              obtain ⟨ZW, HZW⟩ : ∃ ZW, Hid (ZW = w8.setCell ⟨gx, 2, none⟩ (.int .i64 tw)) := ⟨_, rfl⟩
              rw [← HZW.out]
              have HZB := Lib.hid (show ZW.heap[gx]? = some (.cells #[.int .i64 kd, .int .i64 f, .int .i64 tw, .slice none 0 0] 78 (0, 0)) by
                rw [HZW.out]; exact (heap_set_sameO ((g8.block gx hgy NGX.out).trans HYB.out)).trans rfl)
              have HOZ := Lib.hid (show OwnOd ZW B v p rows by rw [HZW.out]; exact ((HOY.out.below (Below.refl _ _).drew).keptg g8 hgB).wrote (Wrote.set (fun i => i = gx) w8 _ _ rfl) (fun i e e2 => by have := HAPX.out i e; omega))
              have HGZ := Lib.hid (show w.grownBy ZW (some g) by rw [HZW.out]; exact grown_set ((grown_below HGY.out (Below.refl _ _).drew).trans g8) hwx)
              have HLZ := Lib.hid (show OwnV ZW w.heap.size (.slice Al nl cl) l by rw [HZW.out]; exact ((HLY.out.below (Below.refl _ _).drew).kept g8 (fun b e e2 => by injection e with e; have := (HLY.out.lt e2).1; omega)).wrote (Wrote.set (fun i => i = gx) w8 _ _ rfl) (fun i e e2 => by have := HB.out i e; omega))
              have HCZ := Lib.hid (show Curs ZW g (M + 634 + 8 * (3 - k) + 6) by rw [HZW.out]; exact (c8.set hgx).more (by omega))
              clear c8 g8 f8 y28 HYB HOY HGY HLY HCY y0 y2 y3 fy y2d hwt ht0 ht1 hto HZW hgy
              have hgz : gx < ZW.heap.size := (Array.getElem?_eq_some_iff.1 HZB.out).1
              have z0 : ZW.cell? ⟨gx, 0, none⟩ = some (.int .i64 kd) := by have := HZB.out; simp [World.cell?, this]
              have z3 : ZW.cell? ⟨gx, 3, none⟩ = some (.slice none 0 0) := by have := HZB.out; simp [World.cell?, this]
              have HST := Lib.hid (strs_lit ZW [⟨#[120, 10]⟩, ⟨#[46, 46, 10]⟩, ⟨#[121, 32, 122, 10]⟩] (by simp [maxLen]) (fun s hs => by simp at hs; rcases hs with rfl | rfl | rfl <;> (simp [maxLen] <;> decide)))
              have BA := Lib.hid (below_alloc ZW (.cells (List.map Value.string [⟨#[120, 10]⟩, ⟨#[46, 46, 10]⟩, ⟨#[121, 32, 122, 10]⟩]).toArray 9))
              go_upto_region 14 with (first
                | (go_at_call 70
                   refine (of_any g _ _ 3 3 [⟨#[120, 10]⟩, ⟨#[46, 46, 10]⟩, ⟨#[121, 32, 122, 10]⟩] _ (HCZ.out.below BA.out) (by omega) HST.out (by omega) (by omega) (fun x e => by injection e with e; subst e; simp; omega)).mono ?_
                   rintro e w9 ⟨s, hs, rfl, c9, g9⟩
                   have hsz : s.size ≤ 8 := (by simp only [List.mem_cons, List.not_mem_nil, or_false] at hs; rcases hs with rfl | rfl | rfl <;> decide)
                   have B9 := Lib.hid (show w9.heap[gx]? = some (.cells #[.int .i64 kd, .int .i64 f, .int .i64 tw, .slice none 0 0] 78 (0, 0)) from (g9.block gx (Nat.lt_of_lt_of_le hgz BA.out.size) NGX.out).trans ((Below.heap_alloc _ _ _ hgz).trans HZB.out))
                   have k9 : ∀ o, (w9.alloc o).cell? ⟨gx, 3, none⟩ = some (.slice none 0 0) := (fun o => cell_keep (below_alloc w9 o) (by have := B9.out; simp [World.cell?, this]))
                   have f9 : ∀ o j, (w9.alloc o).frozen? ⟨gx, j, none⟩ = false := (fun o j => ((below_alloc w9 o).frozen (Array.getElem?_eq_some_iff.1 B9.out).1).trans (by have := B9.out; simp [World.frozen?, this])))
                | fail)
              have hg9 : gx < w9.heap.size := (Array.getElem?_eq_some_iff.1 B9.out).1
              have HO9 := Lib.hid ((HOZ.out.below BA.out).keptg g9 hgB)
              have HG9 := Lib.hid ((grown_below HGZ.out BA.out).trans g9)
              have HL9 := Lib.hid ((HLZ.out.below BA.out).kept g9 (fun b e e2 => by injection e with e; have := (HLZ.out.lt e2).1; omega))
              have BS := Lib.hid (below_alloc w9 (.cells #[.string s] 9))
              have OU := Lib.hid (OwnV.lit w9 B (Nat.le_trans hBx (Nat.le_of_lt hg9)) [s] (by simp [maxLen]) (fun t ht => by simp at ht; rw [ht]; unfold maxLen; omega))
              have HAPU := Lib.hid (show ∀ i, BlkR v rows i → i < w9.heap.size from fun i e => (HO9.out.lt e).2)
              obtain ⟨u, HU⟩ : ∃ u, Hid (u = w9.heap.size) := ⟨_, rfl⟩
              rw [← HU.out]
              obtain ⟨VW, HVW⟩ : ∃ VW, Hid (VW = (w9.alloc (.cells #[.string s] 9)).setCell ⟨gx, 3, none⟩ (.slice (some ⟨u, 0, none⟩) 1 1)) := ⟨_, rfl⟩
              rw [← HVW.out]
              have HOV := Lib.hid (show OwnOd VW B v p rows by rw [HVW.out]; exact (HO9.out.below BS.out).wrote (Wrote.set (fun i => i = gx) _ _ _ rfl) (fun i e e2 => by have := HAPX.out i e; omega))
              have HGV := Lib.hid (show w.grownBy VW (some g) by rw [HVW.out]; exact grown_set (grown_below HG9.out BS.out) hwx)
              have HLV := Lib.hid (show OwnV VW w.heap.size (.slice Al nl cl) l by rw [HVW.out]; exact (HL9.out.below BS.out).wrote (Wrote.set (fun i => i = gx) _ _ _ rfl) (fun i e e2 => by have := HB.out i e; omega))
              have HCV := Lib.hid (show Curs VW g (M + 634 + 8 * (3 - k) + 8) by rw [HVW.out]; exact ((c9.below BS.out).set hgx).more (by omega))
              have HVB := Lib.hid (show VW.heap[gx]? = some (.cells #[.int .i64 kd, .int .i64 f, .int .i64 tw, .slice (some ⟨u, 0, none⟩) 1 1] 78 (0, 0)) by
                rw [HVW.out]; exact (heap_set_sameO ((Below.heap_alloc _ _ _ hg9).trans B9.out)).trans rfl)
              have HUV := Lib.hid (show OwnV VW B (.slice (some ⟨u, 0, none⟩) 1 1) [s] by
                rw [HVW.out, HU.out]; exact OU.out.wrote (Wrote.set (fun i => i = gx) _ _ _ rfl) (fun i e e2 => by simp [Value.ownBlock] at e; omega))
              have HUX := Lib.hid (show ∀ i, (Value.slice (some ⟨u, 0, none⟩) 1 1).ownBlock = some i → ¬ BlkR v rows i from fun i e e2 => by have h1 := HAPU.out i e2; have h2 := HU.out; simp [Value.ownBlock] at e; omega)
              have hsx : [s].length ≤ 4 := by simp
              clear c9 g9 HO9 HG9 HL9 OU HAPU HST HOZ HGZ HLZ HCZ HZB BA k9 f9 hg9 B9 BS HVW HU z0 z3 hs
              have hgv : gx < VW.heap.size := (Array.getElem?_eq_some_iff.1 HVB.out).1
              have x0 : VW.cell? ⟨gx, 0, none⟩ = some (.int .i64 kd) := by have := HVB.out; simp [World.cell?, this]
              have x1 : VW.cell? ⟨gx, 1, none⟩ = some (.int .i64 f) := by have := HVB.out; simp [World.cell?, this]
              have x2 : VW.cell? ⟨gx, 2, none⟩ = some (.int .i64 tw) := by have := HVB.out; simp [World.cell?, this]
              have x3 : VW.cell? ⟨gx, 3, none⟩ = some (.slice (some ⟨u, 0, none⟩) 1 1) := by have := HVB.out; simp [World.cell?, this]
              have BV := Lib.hid (below_alloc VW (.cells #[.int .i64 kd, .int .i64 f, .int .i64 tw, .slice (some ⟨u, 0, none⟩) 1 1] 78))
              have HOK := Lib.hid (show OdOk ⟨kd, f, tw, [s]⟩ from ⟨⟨by dsimp only; omega, by dsimp only; omega⟩, ⟨by dsimp only; omega, by dsimp only; omega⟩, ⟨by dsimp only; omega, by dsimp only; omega⟩, HUV.out.small⟩)
              go_wp2_with (first
                | (at_builtin
                   refine wpList_od (.tmp 59) (.tmp 61) B v p rows (HOV.out.below BV.out) ⟨kd, f, tw, [s]⟩ HOK.out (.slice (some ⟨u, 0, none⟩) 1 1) (HUV.out.below BV.out) HUX.out VW.heap.size (by simp) (by simp) (by simp) (by simp) (by have := HPL.out; omega) (by have := BV.out.size; omega) rfl rfl rfl rfl ?_
                   intro v10 w10 o10 g10 p10
                   have HFB := Lib.hid (show ∀ b, v.ownBlock = some b → B ≤ b ∧ b < gx from fun b e => ⟨(HOV.out.lt (blk_ownE e)).1, HAPX.out b (blk_ownE e)⟩)
                   have G10 := Lib.hid (grown_more (grown_below HGV.out BV.out) g10 (fun b e => .inl (Nat.le_trans hB2 (HFB.out b e).1)))
                   have C10 := Lib.hid ((HCV.out.below BV.out).kept g10 (fun b e => by have := (HFB.out b e).1; omega))
                   have L10 := Lib.hid ((HLV.out.below BV.out).kept g10 (fun b e e2 => by have := (HFB.out b e).1; have := HB.out b e2; omega))
                   have N10 := Lib.hid (show B ≤ w10.heap.size from Nat.le_trans (by have := BV.out.size; omega) g10.size)
                   have O10 := Lib.hid o10
                   clear o10 g10 p10)
                | fail)
              go_roundw
              case rel => exact ⟨k - 1, v10, p ++ [⟨kd, f, tw, [s]⟩], _, rfl, rfl, by omega, O10.out, Lib.hid (by have := HPL.out; rw [List.length_append, List.length_singleton]; omega), Lib.hid (all_snocO HPS.out hsx), Lib.hid (C10.out.more (by omega)), G10, L10, N10⟩
              case measure => simp [intOf]; omega
            · go_simp
              go_at_call 68
              refine (pick_any g _ 3 _ (HCY.out.below (Below.refl _ _).drew) (by omega) (by omega)).mono ?_
              rintro e w8 ⟨t, rfl, ht0, ht1, c8, g8⟩
              have hwt : IntKind.i64.wrap (f + t) = f + t := (by rw [IntKind.wrap_i64]; omega)
              have f8 : ∀ j, w8.frozen? ⟨gx, j, none⟩ = false := (fun j => (g8.frozen_far ⟨gx, j, none⟩ hgy NGX.out).trans (fy j))
              have y28 := cell_past3O g8 y2 NXG.out
              refine hK.out _ _ ?_ (fun hHeld => ?_)
              · exact trivial
              clear hK K
              (try simp only [Act.put, List.setIfInBounds_toArray, List.set_cons_zero, List.set_cons_succ])
              refine wpAnyH_ready (rs := [1]) (by kernel_rfl) (by simp) ?_
              refine AllReadyH.cons (by simp only [List.getElem?_toArray, List.getElem?_cons_succ, List.getElem?_cons_zero]; rfl) (fun K hK => ?_) AllReadyH.nil
              go_simp
              refine hK.out _ _ ?_ (fun hHeld => ?_)
              · exact trivial
              clear hK K
              (try simp only [Act.put, List.setIfInBounds_toArray, List.set_cons_zero, List.set_cons_succ])
              refine wpAnyH_take (i := 4) (v := ?_) (by simp only [List.getElem?_toArray, List.getElem?_cons_succ, List.getElem?_cons_zero]; rfl) (by kernel_rfl) (by kernel_rfl) (by kernel_rfl) (by exact fun _ _ _ h => h) (Or.inl ⟨by rfl, ?_⟩) hHeld ?_
              rotate_left 1
              · (intro w hSw; (try dsimp only at hSw); go_simp; (try with_reducible rfl))
              (try simp only [Act.put, List.setIfInBounds_toArray, List.set_cons_zero, List.set_cons_succ])
              refine wpAnyH_take (i := 5) (v := ?_) (by simp only [List.getElem?_toArray, List.getElem?_cons_succ, List.getElem?_cons_zero]; rfl) (by kernel_rfl) (by kernel_rfl) (by kernel_rfl) (by exact fun _ _ _ h => h) (Or.inl ⟨by rfl, ?_⟩) hHeld ?_
              rotate_left 1
              · (intro w hSw; (try dsimp only at hSw); go_simp; (try with_reducible rfl))
              (try simp only [Act.put, List.setIfInBounds_toArray, List.set_cons_zero, List.set_cons_succ])
              refine wpAnyH_ready (rs := [6]) (by kernel_rfl) (by simp) ?_
              refine AllReadyH.cons (by simp only [List.getElem?_toArray, List.getElem?_cons_succ, List.getElem?_cons_zero]; rfl) (fun K hK => ?_) AllReadyH.nil
              go_simp
              refine hK.out _ _ ?_ (fun hHeld => ?_)
              · exact trivial
              clear hK K
              (try simp only [Act.put, List.setIfInBounds_toArray, List.set_cons_zero, List.set_cons_succ])
              refine wpAnyH_done (by kernel_rfl) ?_ _
              clear hHeld
              obtain ⟨tw, hto⟩ : ∃ tw, tw = f + t := ⟨_, rfl⟩
              rw [← hto]
              have hto0 : 0 ≤ tw := by omega
              have hto9 : tw ≤ 9 := by omega
              obtain ⟨ZW, HZW⟩ : ∃ ZW, Hid (ZW = w8.setCell ⟨gx, 2, none⟩ (.int .i64 tw)) := ⟨_, rfl⟩
              rw [← HZW.out]
              have HZB := Lib.hid (show ZW.heap[gx]? = some (.cells #[.int .i64 kd, .int .i64 f, .int .i64 tw, .slice none 0 0] 78 (0, 0)) by
                rw [HZW.out]; exact (heap_set_sameO ((g8.block gx hgy NGX.out).trans HYB.out)).trans rfl)
              have HOZ := Lib.hid (show OwnOd ZW B v p rows by rw [HZW.out]; exact ((HOY.out.below (Below.refl _ _).drew).keptg g8 hgB).wrote (Wrote.set (fun i => i = gx) w8 _ _ rfl) (fun i e e2 => by have := HAPX.out i e; omega))
              have HGZ := Lib.hid (show w.grownBy ZW (some g) by rw [HZW.out]; exact grown_set ((grown_below HGY.out (Below.refl _ _).drew).trans g8) hwx)
              have HLZ := Lib.hid (show OwnV ZW w.heap.size (.slice Al nl cl) l by rw [HZW.out]; exact ((HLY.out.below (Below.refl _ _).drew).kept g8 (fun b e e2 => by injection e with e; have := (HLY.out.lt e2).1; omega)).wrote (Wrote.set (fun i => i = gx) w8 _ _ rfl) (fun i e e2 => by have := HB.out i e; omega))
              have HCZ := Lib.hid (show Curs ZW g (M + 634 + 8 * (3 - k) + 6) by rw [HZW.out]; exact (c8.set hgx).more (by omega))
              clear c8 g8 f8 y28 HYB HOY HGY HLY HCY y0 y2 y3 fy y2d hwt ht0 ht1 hto HZW hgy
              have hgz : gx < ZW.heap.size := (Array.getElem?_eq_some_iff.1 HZB.out).1
              have z0 : ZW.cell? ⟨gx, 0, none⟩ = some (.int .i64 kd) := by have := HZB.out; simp [World.cell?, this]
              have z3 : ZW.cell? ⟨gx, 3, none⟩ = some (.slice none 0 0) := by have := HZB.out; simp [World.cell?, this]
              have HST := Lib.hid (strs_lit ZW [⟨#[120, 10]⟩, ⟨#[46, 46, 10]⟩, ⟨#[121, 32, 122, 10]⟩] (by simp [maxLen]) (fun s hs => by simp at hs; rcases hs with rfl | rfl | rfl <;> (simp [maxLen] <;> decide)))
              have BA := Lib.hid (below_alloc ZW (.cells (List.map Value.string [⟨#[120, 10]⟩, ⟨#[46, 46, 10]⟩, ⟨#[121, 32, 122, 10]⟩]).toArray 9))
              go_upto_region 14 with (first
                | (go_at_call 70
                   refine (of_any g _ _ 3 3 [⟨#[120, 10]⟩, ⟨#[46, 46, 10]⟩, ⟨#[121, 32, 122, 10]⟩] _ (HCZ.out.below BA.out) (by omega) HST.out (by omega) (by omega) (fun x e => by injection e with e; subst e; simp; omega)).mono ?_
                   rintro e w9 ⟨s, hs, rfl, c9, g9⟩
                   have hsz : s.size ≤ 8 := (by simp only [List.mem_cons, List.not_mem_nil, or_false] at hs; rcases hs with rfl | rfl | rfl <;> decide)
                   have B9 := Lib.hid (show w9.heap[gx]? = some (.cells #[.int .i64 kd, .int .i64 f, .int .i64 tw, .slice none 0 0] 78 (0, 0)) from (g9.block gx (Nat.lt_of_lt_of_le hgz BA.out.size) NGX.out).trans ((Below.heap_alloc _ _ _ hgz).trans HZB.out))
                   have k9 : ∀ o, (w9.alloc o).cell? ⟨gx, 3, none⟩ = some (.slice none 0 0) := (fun o => cell_keep (below_alloc w9 o) (by have := B9.out; simp [World.cell?, this]))
                   have f9 : ∀ o j, (w9.alloc o).frozen? ⟨gx, j, none⟩ = false := (fun o j => ((below_alloc w9 o).frozen (Array.getElem?_eq_some_iff.1 B9.out).1).trans (by have := B9.out; simp [World.frozen?, this])))
                | fail)
              have hg9 : gx < w9.heap.size := (Array.getElem?_eq_some_iff.1 B9.out).1
              have HO9 := Lib.hid ((HOZ.out.below BA.out).keptg g9 hgB)
              have HG9 := Lib.hid ((grown_below HGZ.out BA.out).trans g9)
              have HL9 := Lib.hid ((HLZ.out.below BA.out).kept g9 (fun b e e2 => by injection e with e; have := (HLZ.out.lt e2).1; omega))
              have BS := Lib.hid (below_alloc w9 (.cells #[.string s] 9))
              have OU := Lib.hid (OwnV.lit w9 B (Nat.le_trans hBx (Nat.le_of_lt hg9)) [s] (by simp [maxLen]) (fun t ht => by simp at ht; rw [ht]; unfold maxLen; omega))
              have HAPU := Lib.hid (show ∀ i, BlkR v rows i → i < w9.heap.size from fun i e => (HO9.out.lt e).2)
              obtain ⟨u, HU⟩ : ∃ u, Hid (u = w9.heap.size) := ⟨_, rfl⟩
              rw [← HU.out]
              obtain ⟨VW, HVW⟩ : ∃ VW, Hid (VW = (w9.alloc (.cells #[.string s] 9)).setCell ⟨gx, 3, none⟩ (.slice (some ⟨u, 0, none⟩) 1 1)) := ⟨_, rfl⟩
              rw [← HVW.out]
              have HOV := Lib.hid (show OwnOd VW B v p rows by rw [HVW.out]; exact (HO9.out.below BS.out).wrote (Wrote.set (fun i => i = gx) _ _ _ rfl) (fun i e e2 => by have := HAPX.out i e; omega))
              have HGV := Lib.hid (show w.grownBy VW (some g) by rw [HVW.out]; exact grown_set (grown_below HG9.out BS.out) hwx)
              have HLV := Lib.hid (show OwnV VW w.heap.size (.slice Al nl cl) l by rw [HVW.out]; exact (HL9.out.below BS.out).wrote (Wrote.set (fun i => i = gx) _ _ _ rfl) (fun i e e2 => by have := HB.out i e; omega))
              have HCV := Lib.hid (show Curs VW g (M + 634 + 8 * (3 - k) + 8) by rw [HVW.out]; exact ((c9.below BS.out).set hgx).more (by omega))
              have HVB := Lib.hid (show VW.heap[gx]? = some (.cells #[.int .i64 kd, .int .i64 f, .int .i64 tw, .slice (some ⟨u, 0, none⟩) 1 1] 78 (0, 0)) by
                rw [HVW.out]; exact (heap_set_sameO ((Below.heap_alloc _ _ _ hg9).trans B9.out)).trans rfl)
              have HUV := Lib.hid (show OwnV VW B (.slice (some ⟨u, 0, none⟩) 1 1) [s] by
                rw [HVW.out, HU.out]; exact OU.out.wrote (Wrote.set (fun i => i = gx) _ _ _ rfl) (fun i e e2 => by simp [Value.ownBlock] at e; omega))
              have HUX := Lib.hid (show ∀ i, (Value.slice (some ⟨u, 0, none⟩) 1 1).ownBlock = some i → ¬ BlkR v rows i from fun i e e2 => by have h1 := HAPU.out i e2; have h2 := HU.out; simp [Value.ownBlock] at e; omega)
              have hsx : [s].length ≤ 4 := by simp
              clear c9 g9 HO9 HG9 HL9 OU HAPU HST HOZ HGZ HLZ HCZ HZB BA k9 f9 hg9 B9 BS HVW HU z0 z3 hs
              have hgv : gx < VW.heap.size := (Array.getElem?_eq_some_iff.1 HVB.out).1
              have x0 : VW.cell? ⟨gx, 0, none⟩ = some (.int .i64 kd) := by have := HVB.out; simp [World.cell?, this]
              have x1 : VW.cell? ⟨gx, 1, none⟩ = some (.int .i64 f) := by have := HVB.out; simp [World.cell?, this]
              have x2 : VW.cell? ⟨gx, 2, none⟩ = some (.int .i64 tw) := by have := HVB.out; simp [World.cell?, this]
              have x3 : VW.cell? ⟨gx, 3, none⟩ = some (.slice (some ⟨u, 0, none⟩) 1 1) := by have := HVB.out; simp [World.cell?, this]
              have BV := Lib.hid (below_alloc VW (.cells #[.int .i64 kd, .int .i64 f, .int .i64 tw, .slice (some ⟨u, 0, none⟩) 1 1] 78))
              have HOK := Lib.hid (show OdOk ⟨kd, f, tw, [s]⟩ from ⟨⟨by dsimp only; omega, by dsimp only; omega⟩, ⟨by dsimp only; omega, by dsimp only; omega⟩, ⟨by dsimp only; omega, by dsimp only; omega⟩, HUV.out.small⟩)
              go_wp2_with (first
                | (at_builtin
                   refine wpList_od (.tmp 59) (.tmp 61) B v p rows (HOV.out.below BV.out) ⟨kd, f, tw, [s]⟩ HOK.out (.slice (some ⟨u, 0, none⟩) 1 1) (HUV.out.below BV.out) HUX.out VW.heap.size (by simp) (by simp) (by simp) (by simp) (by have := HPL.out; omega) (by have := BV.out.size; omega) rfl rfl rfl rfl ?_
                   intro v10 w10 o10 g10 p10
                   have HFB := Lib.hid (show ∀ b, v.ownBlock = some b → B ≤ b ∧ b < gx from fun b e => ⟨(HOV.out.lt (blk_ownE e)).1, HAPX.out b (blk_ownE e)⟩)
                   have G10 := Lib.hid (grown_more (grown_below HGV.out BV.out) g10 (fun b e => .inl (Nat.le_trans hB2 (HFB.out b e).1)))
                   have C10 := Lib.hid ((HCV.out.below BV.out).kept g10 (fun b e => by have := (HFB.out b e).1; omega))
                   have L10 := Lib.hid ((HLV.out.below BV.out).kept g10 (fun b e e2 => by have := (HFB.out b e).1; have := HB.out b e2; omega))
                   have N10 := Lib.hid (show B ≤ w10.heap.size from Nat.le_trans (by have := BV.out.size; omega) g10.size)
                   have O10 := Lib.hid o10
                   clear o10 g10 p10)
                | fail)
              go_roundw
              case rel => exact ⟨k - 1, v10, p ++ [⟨kd, f, tw, [s]⟩], _, rfl, rfl, by omega, O10.out, Lib.hid (by have := HPL.out; rw [List.length_append, List.length_singleton]; omega), Lib.hid (all_snocO HPS.out hsx), Lib.hid (C10.out.more (by omega)), G10, L10, N10⟩
              case measure => simp [intOf]; omega
          · have q1 : (kd == 3) = false := by simpa using h3
            by_cases h4 : kd = 4
            · have q2 : (kd == 4) = true := by simp [h4]
              have q3 : decide (kd ≤ 3) = false := by simp [h4]
              clear h3 h4
              go_wp2
              have y2d : YW.drew.cell? ⟨gx, 2, none⟩ = some (.int .i64 f) := y2
              refine wp_region_held_drew (S := fun _ => True) (by kernel_rfl) ?_ (fun hHeld => ?_)
              · exact trivial
              refine wpAnyH_take (i := 0) (v := ?_) (by simp only [List.getElem?_toArray, List.getElem?_cons_succ, List.getElem?_cons_zero]; rfl) (by kernel_rfl) (by kernel_rfl) (by kernel_rfl) (by exact fun _ _ _ h => h) (Or.inl ⟨by rfl, ?_⟩) hHeld ?_
              rotate_left 1
              · (intro w hSw; (try dsimp only at hSw); go_simp; (try with_reducible rfl))
              (try simp only [Act.put, List.setIfInBounds_toArray, List.set_cons_zero, List.set_cons_succ])
              refine wpAnyH_take (i := 2) (v := ?_) (by simp only [List.getElem?_toArray, List.getElem?_cons_succ, List.getElem?_cons_zero]; rfl) (by kernel_rfl) (by kernel_rfl) (by kernel_rfl) (by exact fun _ _ _ h => h) (Or.inl ⟨by rfl, ?_⟩) hHeld ?_
              rotate_left 1
              · (intro w hSw; (try dsimp only at hSw); go_simp; (try with_reducible rfl))
              (try simp only [Act.put, List.setIfInBounds_toArray, List.set_cons_zero, List.set_cons_succ])
              refine wpAnyH_ready (rs := [1, 3]) (by kernel_rfl) (by simp) ?_
              refine AllReadyH.cons (by simp only [List.getElem?_toArray, List.getElem?_cons_succ, List.getElem?_cons_zero]; rfl) (fun K hK => ?_) (AllReadyH.cons (by simp only [List.getElem?_toArray, List.getElem?_cons_succ, List.getElem?_cons_zero]; rfl) (fun K hK => ?_) AllReadyH.nil)
              · go_simp
                refine hK.out _ _ ?_ (fun hHeld => ?_)
                · exact trivial
                clear hK K
                (try simp only [Act.put, List.setIfInBounds_toArray, List.set_cons_zero, List.set_cons_succ])
                refine wpAnyH_ready (rs := [3]) (by kernel_rfl) (by simp) ?_
                refine AllReadyH.cons (by simp only [List.getElem?_toArray, List.getElem?_cons_succ, List.getElem?_cons_zero]; rfl) (fun K hK => ?_) AllReadyH.nil
                go_simp
                go_at_call 68
                refine (pick_any g _ 3 _ (HCY.out.below (Below.refl _ _).drew) (by omega) (by omega)).mono ?_
                rintro e w8 ⟨t, rfl, ht0, ht1, c8, g8⟩
                have hwt : IntKind.i64.wrap (f + t) = f + t := (by rw [IntKind.wrap_i64]; omega)
                have f8 : ∀ j, w8.frozen? ⟨gx, j, none⟩ = false := (fun j => (g8.frozen_far ⟨gx, j, none⟩ hgy NGX.out).trans (fy j))
                have y28 := cell_past3O g8 y2 NXG.out
                refine hK.out _ _ ?_ (fun hHeld => ?_)
                · exact trivial
                clear hK K
                (try simp only [Act.put, List.setIfInBounds_toArray, List.set_cons_zero, List.set_cons_succ])
                refine wpAnyH_take (i := 4) (v := ?_) (by simp only [List.getElem?_toArray, List.getElem?_cons_succ, List.getElem?_cons_zero]; rfl) (by kernel_rfl) (by kernel_rfl) (by kernel_rfl) (by exact fun _ _ _ h => h) (Or.inl ⟨by rfl, ?_⟩) hHeld ?_
                rotate_left 1
                · (intro w hSw; (try dsimp only at hSw); go_simp; (try with_reducible rfl))
                (try simp only [Act.put, List.setIfInBounds_toArray, List.set_cons_zero, List.set_cons_succ])
                refine wpAnyH_take (i := 5) (v := ?_) (by simp only [List.getElem?_toArray, List.getElem?_cons_succ, List.getElem?_cons_zero]; rfl) (by kernel_rfl) (by kernel_rfl) (by kernel_rfl) (by exact fun _ _ _ h => h) (Or.inl ⟨by rfl, ?_⟩) hHeld ?_
                rotate_left 1
                · (intro w hSw; (try dsimp only at hSw); go_simp; (try with_reducible rfl))
                (try simp only [Act.put, List.setIfInBounds_toArray, List.set_cons_zero, List.set_cons_succ])
                refine wpAnyH_ready (rs := [6]) (by kernel_rfl) (by simp) ?_
                refine AllReadyH.cons (by simp only [List.getElem?_toArray, List.getElem?_cons_succ, List.getElem?_cons_zero]; rfl) (fun K hK => ?_) AllReadyH.nil
                go_simp
                refine hK.out _ _ ?_ (fun hHeld => ?_)
                · exact trivial
                clear hK K
                (try simp only [Act.put, List.setIfInBounds_toArray, List.set_cons_zero, List.set_cons_succ])
                refine wpAnyH_done (by kernel_rfl) ?_ _
                clear hHeld
                obtain ⟨tw, hto⟩ : ∃ tw, tw = f + t := ⟨_, rfl⟩
                rw [← hto]
                have hto0 : 0 ≤ tw := by omega
                have hto9 : tw ≤ 9 := by omega
                obtain ⟨ZW, HZW⟩ : ∃ ZW, Hid (ZW = w8.setCell ⟨gx, 2, none⟩ (.int .i64 tw)) := ⟨_, rfl⟩
                rw [← HZW.out]
                have HZB := Lib.hid (show ZW.heap[gx]? = some (.cells #[.int .i64 kd, .int .i64 f, .int .i64 tw, .slice none 0 0] 78 (0, 0)) by
                  rw [HZW.out]; exact (heap_set_sameO ((g8.block gx hgy NGX.out).trans HYB.out)).trans rfl)
                have HOZ := Lib.hid (show OwnOd ZW B v p rows by rw [HZW.out]; exact ((HOY.out.below (Below.refl _ _).drew).keptg g8 hgB).wrote (Wrote.set (fun i => i = gx) w8 _ _ rfl) (fun i e e2 => by have := HAPX.out i e; omega))
                have HGZ := Lib.hid (show w.grownBy ZW (some g) by rw [HZW.out]; exact grown_set ((grown_below HGY.out (Below.refl _ _).drew).trans g8) hwx)
                have HLZ := Lib.hid (show OwnV ZW w.heap.size (.slice Al nl cl) l by rw [HZW.out]; exact ((HLY.out.below (Below.refl _ _).drew).kept g8 (fun b e e2 => by injection e with e; have := (HLY.out.lt e2).1; omega)).wrote (Wrote.set (fun i => i = gx) w8 _ _ rfl) (fun i e e2 => by have := HB.out i e; omega))
                have HCZ := Lib.hid (show Curs ZW g (M + 634 + 8 * (3 - k) + 6) by rw [HZW.out]; exact (c8.set hgx).more (by omega))
                clear c8 g8 f8 y28 HYB HOY HGY HLY HCY y0 y2 y3 fy y2d hwt ht0 ht1 hto HZW hgy
                have hgz : gx < ZW.heap.size := (Array.getElem?_eq_some_iff.1 HZB.out).1
                have z0 : ZW.cell? ⟨gx, 0, none⟩ = some (.int .i64 kd) := by have := HZB.out; simp [World.cell?, this]
                have z3 : ZW.cell? ⟨gx, 3, none⟩ = some (.slice none 0 0) := by have := HZB.out; simp [World.cell?, this]
                obtain ⟨VW, HVW⟩ : ∃ VW, Hid (VW = ZW) := ⟨_, rfl⟩
                go_upto_region 14 with fail
                rw [← HVW.out]
                have HOV := Lib.hid (show OwnOd VW B v p rows by rw [HVW.out]; exact HOZ.out)
                have HGV := Lib.hid (show w.grownBy VW (some g) by rw [HVW.out]; exact HGZ.out)
                have HLV := Lib.hid (show OwnV VW w.heap.size (.slice Al nl cl) l by rw [HVW.out]; exact HLZ.out)
                have HCV := Lib.hid (show Curs VW g (M + 634 + 8 * (3 - k) + 8) by rw [HVW.out]; exact HCZ.out.more (by omega))
                have HVB := Lib.hid (show VW.heap[gx]? = some (.cells #[.int .i64 kd, .int .i64 f, .int .i64 tw, .slice none 0 0] 78 (0, 0)) by rw [HVW.out]; exact HZB.out)
                have HUV := Lib.hid (show OwnV VW B (.slice none 0 0) [] from OwnV.nil_)
                have HUX := Lib.hid (show ∀ i, (Value.slice none 0 0).ownBlock = some i → ¬ BlkR v rows i from fun i e => by simp [Value.ownBlock] at e)
                have hsx : ([] : List ByteArray).length ≤ 4 := by simp
                clear HOZ HGZ HLZ HCZ HZB HVW z0 z3 hgz
                have hgv : gx < VW.heap.size := (Array.getElem?_eq_some_iff.1 HVB.out).1
                have x0 : VW.cell? ⟨gx, 0, none⟩ = some (.int .i64 kd) := by have := HVB.out; simp [World.cell?, this]
                have x1 : VW.cell? ⟨gx, 1, none⟩ = some (.int .i64 f) := by have := HVB.out; simp [World.cell?, this]
                have x2 : VW.cell? ⟨gx, 2, none⟩ = some (.int .i64 tw) := by have := HVB.out; simp [World.cell?, this]
                have x3 : VW.cell? ⟨gx, 3, none⟩ = some (.slice none 0 0) := by have := HVB.out; simp [World.cell?, this]
                have BV := Lib.hid (below_alloc VW (.cells #[.int .i64 kd, .int .i64 f, .int .i64 tw, .slice none 0 0] 78))
                have HOK := Lib.hid (show OdOk ⟨kd, f, tw, []⟩ from ⟨⟨by dsimp only; omega, by dsimp only; omega⟩, ⟨by dsimp only; omega, by dsimp only; omega⟩, ⟨by dsimp only; omega, by dsimp only; omega⟩, HUV.out.small⟩)
                go_wp2_with (first
                  | (at_builtin
                     refine wpList_od (.tmp 59) (.tmp 61) B v p rows (HOV.out.below BV.out) ⟨kd, f, tw, []⟩ HOK.out (.slice none 0 0) (HUV.out.below BV.out) HUX.out VW.heap.size (by simp) (by simp) (by simp) (by simp) (by have := HPL.out; omega) (by have := BV.out.size; omega) rfl rfl rfl rfl ?_
                     intro v10 w10 o10 g10 p10
                     have HFB := Lib.hid (show ∀ b, v.ownBlock = some b → B ≤ b ∧ b < gx from fun b e => ⟨(HOV.out.lt (blk_ownE e)).1, HAPX.out b (blk_ownE e)⟩)
                     have G10 := Lib.hid (grown_more (grown_below HGV.out BV.out) g10 (fun b e => .inl (Nat.le_trans hB2 (HFB.out b e).1)))
                     have C10 := Lib.hid ((HCV.out.below BV.out).kept g10 (fun b e => by have := (HFB.out b e).1; omega))
                     have L10 := Lib.hid ((HLV.out.below BV.out).kept g10 (fun b e e2 => by have := (HFB.out b e).1; have := HB.out b e2; omega))
                     have N10 := Lib.hid (show B ≤ w10.heap.size from Nat.le_trans (by have := BV.out.size; omega) g10.size)
                     have O10 := Lib.hid o10
                     clear o10 g10 p10)
                  | fail)
                go_roundw
                case rel => exact ⟨k - 1, v10, p ++ [⟨kd, f, tw, []⟩], _, rfl, rfl, by omega, O10.out, Lib.hid (by have := HPL.out; rw [List.length_append, List.length_singleton]; omega), Lib.hid (all_snocO HPS.out hsx), Lib.hid (C10.out.more (by omega)), G10, L10, N10⟩
                case measure => simp [intOf]; omega
              · go_simp
                go_at_call 68
                refine (pick_any g _ 3 _ (HCY.out.below (Below.refl _ _).drew) (by omega) (by omega)).mono ?_
                rintro e w8 ⟨t, rfl, ht0, ht1, c8, g8⟩
                have hwt : IntKind.i64.wrap (f + t) = f + t := (by rw [IntKind.wrap_i64]; omega)
                have f8 : ∀ j, w8.frozen? ⟨gx, j, none⟩ = false := (fun j => (g8.frozen_far ⟨gx, j, none⟩ hgy NGX.out).trans (fy j))
                have y28 := cell_past3O g8 y2 NXG.out
                refine hK.out _ _ ?_ (fun hHeld => ?_)
                · exact trivial
                clear hK K
                (try simp only [Act.put, List.setIfInBounds_toArray, List.set_cons_zero, List.set_cons_succ])
                refine wpAnyH_ready (rs := [1]) (by kernel_rfl) (by simp) ?_
                refine AllReadyH.cons (by simp only [List.getElem?_toArray, List.getElem?_cons_succ, List.getElem?_cons_zero]; rfl) (fun K hK => ?_) AllReadyH.nil
                go_simp
                refine hK.out _ _ ?_ (fun hHeld => ?_)
                · exact trivial
                clear hK K
                (try simp only [Act.put, List.setIfInBounds_toArray, List.set_cons_zero, List.set_cons_succ])
                refine wpAnyH_take (i := 4) (v := ?_) (by simp only [List.getElem?_toArray, List.getElem?_cons_succ, List.getElem?_cons_zero]; rfl) (by kernel_rfl) (by kernel_rfl) (by kernel_rfl) (by exact fun _ _ _ h => h) (Or.inl ⟨by rfl, ?_⟩) hHeld ?_
                rotate_left 1
                · (intro w hSw; (try dsimp only at hSw); go_simp; (try with_reducible rfl))
                (try simp only [Act.put, List.setIfInBounds_toArray, List.set_cons_zero, List.set_cons_succ])
                refine wpAnyH_take (i := 5) (v := ?_) (by simp only [List.getElem?_toArray, List.getElem?_cons_succ, List.getElem?_cons_zero]; rfl) (by kernel_rfl) (by kernel_rfl) (by kernel_rfl) (by exact fun _ _ _ h => h) (Or.inl ⟨by rfl, ?_⟩) hHeld ?_
                rotate_left 1
                · (intro w hSw; (try dsimp only at hSw); go_simp; (try with_reducible rfl))
                (try simp only [Act.put, List.setIfInBounds_toArray, List.set_cons_zero, List.set_cons_succ])
                refine wpAnyH_ready (rs := [6]) (by kernel_rfl) (by simp) ?_
                refine AllReadyH.cons (by simp only [List.getElem?_toArray, List.getElem?_cons_succ, List.getElem?_cons_zero]; rfl) (fun K hK => ?_) AllReadyH.nil
                go_simp
                refine hK.out _ _ ?_ (fun hHeld => ?_)
                · exact trivial
                clear hK K
                (try simp only [Act.put, List.setIfInBounds_toArray, List.set_cons_zero, List.set_cons_succ])
                refine wpAnyH_done (by kernel_rfl) ?_ _
                clear hHeld
                obtain ⟨tw, hto⟩ : ∃ tw, tw = f + t := ⟨_, rfl⟩
                rw [← hto]
                have hto0 : 0 ≤ tw := by omega
                have hto9 : tw ≤ 9 := by omega
                obtain ⟨ZW, HZW⟩ : ∃ ZW, Hid (ZW = w8.setCell ⟨gx, 2, none⟩ (.int .i64 tw)) := ⟨_, rfl⟩
                rw [← HZW.out]
                have HZB := Lib.hid (show ZW.heap[gx]? = some (.cells #[.int .i64 kd, .int .i64 f, .int .i64 tw, .slice none 0 0] 78 (0, 0)) by
                  rw [HZW.out]; exact (heap_set_sameO ((g8.block gx hgy NGX.out).trans HYB.out)).trans rfl)
                have HOZ := Lib.hid (show OwnOd ZW B v p rows by rw [HZW.out]; exact ((HOY.out.below (Below.refl _ _).drew).keptg g8 hgB).wrote (Wrote.set (fun i => i = gx) w8 _ _ rfl) (fun i e e2 => by have := HAPX.out i e; omega))
                have HGZ := Lib.hid (show w.grownBy ZW (some g) by rw [HZW.out]; exact grown_set ((grown_below HGY.out (Below.refl _ _).drew).trans g8) hwx)
                have HLZ := Lib.hid (show OwnV ZW w.heap.size (.slice Al nl cl) l by rw [HZW.out]; exact ((HLY.out.below (Below.refl _ _).drew).kept g8 (fun b e e2 => by injection e with e; have := (HLY.out.lt e2).1; omega)).wrote (Wrote.set (fun i => i = gx) w8 _ _ rfl) (fun i e e2 => by have := HB.out i e; omega))
                have HCZ := Lib.hid (show Curs ZW g (M + 634 + 8 * (3 - k) + 6) by rw [HZW.out]; exact (c8.set hgx).more (by omega))
                clear c8 g8 f8 y28 HYB HOY HGY HLY HCY y0 y2 y3 fy y2d hwt ht0 ht1 hto HZW hgy
                have hgz : gx < ZW.heap.size := (Array.getElem?_eq_some_iff.1 HZB.out).1
                have z0 : ZW.cell? ⟨gx, 0, none⟩ = some (.int .i64 kd) := by have := HZB.out; simp [World.cell?, this]
                have z3 : ZW.cell? ⟨gx, 3, none⟩ = some (.slice none 0 0) := by have := HZB.out; simp [World.cell?, this]
                obtain ⟨VW, HVW⟩ : ∃ VW, Hid (VW = ZW) := ⟨_, rfl⟩
                go_upto_region 14 with fail
                rw [← HVW.out]
                have HOV := Lib.hid (show OwnOd VW B v p rows by rw [HVW.out]; exact HOZ.out)
                have HGV := Lib.hid (show w.grownBy VW (some g) by rw [HVW.out]; exact HGZ.out)
                have HLV := Lib.hid (show OwnV VW w.heap.size (.slice Al nl cl) l by rw [HVW.out]; exact HLZ.out)
                have HCV := Lib.hid (show Curs VW g (M + 634 + 8 * (3 - k) + 8) by rw [HVW.out]; exact HCZ.out.more (by omega))
                have HVB := Lib.hid (show VW.heap[gx]? = some (.cells #[.int .i64 kd, .int .i64 f, .int .i64 tw, .slice none 0 0] 78 (0, 0)) by rw [HVW.out]; exact HZB.out)
                have HUV := Lib.hid (show OwnV VW B (.slice none 0 0) [] from OwnV.nil_)
                have HUX := Lib.hid (show ∀ i, (Value.slice none 0 0).ownBlock = some i → ¬ BlkR v rows i from fun i e => by simp [Value.ownBlock] at e)
                have hsx : ([] : List ByteArray).length ≤ 4 := by simp
                clear HOZ HGZ HLZ HCZ HZB HVW z0 z3 hgz
                have hgv : gx < VW.heap.size := (Array.getElem?_eq_some_iff.1 HVB.out).1
                have x0 : VW.cell? ⟨gx, 0, none⟩ = some (.int .i64 kd) := by have := HVB.out; simp [World.cell?, this]
                have x1 : VW.cell? ⟨gx, 1, none⟩ = some (.int .i64 f) := by have := HVB.out; simp [World.cell?, this]
                have x2 : VW.cell? ⟨gx, 2, none⟩ = some (.int .i64 tw) := by have := HVB.out; simp [World.cell?, this]
                have x3 : VW.cell? ⟨gx, 3, none⟩ = some (.slice none 0 0) := by have := HVB.out; simp [World.cell?, this]
                have BV := Lib.hid (below_alloc VW (.cells #[.int .i64 kd, .int .i64 f, .int .i64 tw, .slice none 0 0] 78))
                have HOK := Lib.hid (show OdOk ⟨kd, f, tw, []⟩ from ⟨⟨by dsimp only; omega, by dsimp only; omega⟩, ⟨by dsimp only; omega, by dsimp only; omega⟩, ⟨by dsimp only; omega, by dsimp only; omega⟩, HUV.out.small⟩)
                go_wp2_with (first
                  | (at_builtin
                     refine wpList_od (.tmp 59) (.tmp 61) B v p rows (HOV.out.below BV.out) ⟨kd, f, tw, []⟩ HOK.out (.slice none 0 0) (HUV.out.below BV.out) HUX.out VW.heap.size (by simp) (by simp) (by simp) (by simp) (by have := HPL.out; omega) (by have := BV.out.size; omega) rfl rfl rfl rfl ?_
                     intro v10 w10 o10 g10 p10
                     have HFB := Lib.hid (show ∀ b, v.ownBlock = some b → B ≤ b ∧ b < gx from fun b e => ⟨(HOV.out.lt (blk_ownE e)).1, HAPX.out b (blk_ownE e)⟩)
                     have G10 := Lib.hid (grown_more (grown_below HGV.out BV.out) g10 (fun b e => .inl (Nat.le_trans hB2 (HFB.out b e).1)))
                     have C10 := Lib.hid ((HCV.out.below BV.out).kept g10 (fun b e => by have := (HFB.out b e).1; omega))
                     have L10 := Lib.hid ((HLV.out.below BV.out).kept g10 (fun b e e2 => by have := (HFB.out b e).1; have := HB.out b e2; omega))
                     have N10 := Lib.hid (show B ≤ w10.heap.size from Nat.le_trans (by have := BV.out.size; omega) g10.size)
                     have O10 := Lib.hid o10
                     clear o10 g10 p10)
                  | fail)
                go_roundw
                case rel => exact ⟨k - 1, v10, p ++ [⟨kd, f, tw, []⟩], _, rfl, rfl, by omega, O10.out, Lib.hid (by have := HPL.out; rw [List.length_append, List.length_singleton]; omega), Lib.hid (all_snocO HPS.out hsx), Lib.hid (C10.out.more (by omega)), G10, L10, N10⟩
                case measure => simp [intOf]; omega
            · have q2 : (kd == 4) = false := by simpa using h4
              by_cases h2 : kd ≤ 3
              · have q3 : decide (kd ≤ 3) = true := by simp [h2]
                clear h3 h4 h2
                obtain ⟨ZW, HZW⟩ : ∃ ZW, Hid (ZW = YW) := ⟨_, rfl⟩
                obtain ⟨tw, hto⟩ : ∃ tw, Hid (tw = f) := ⟨_, rfl⟩
                have HZB := Lib.hid (show ZW.heap[gx]? = some (.cells #[.int .i64 kd, .int .i64 f, .int .i64 tw, .slice none 0 0] 78 (0, 0)) by rw [HZW.out, hto.out]; exact HYB.out)
                have hto0 : 0 ≤ tw := by have := hto.out; omega
                have hto9 : tw ≤ 9 := by have := hto.out; omega
                have HOZ := Lib.hid (show OwnOd ZW B v p rows by rw [HZW.out]; exact HOY.out)
                have HGZ := Lib.hid (show w.grownBy ZW (some g) by rw [HZW.out]; exact HGY.out)
                have HLZ := Lib.hid (show OwnV ZW w.heap.size (.slice Al nl cl) l by rw [HZW.out]; exact HLY.out)
                have HCZ := Lib.hid (show Curs ZW g (M + 634 + 8 * (3 - k) + 6) by rw [HZW.out]; exact HCY.out.more (by omega))
                go_upto_region 12 with fail
                rw [← HZW.out]
                clear HYB HOY HGY HLY HCY y0 y2 y3 fy hto HZW hgy
                have hgz : gx < ZW.heap.size := (Array.getElem?_eq_some_iff.1 HZB.out).1
                have z0 : ZW.cell? ⟨gx, 0, none⟩ = some (.int .i64 kd) := by have := HZB.out; simp [World.cell?, this]
                have z3 : ZW.cell? ⟨gx, 3, none⟩ = some (.slice none 0 0) := by have := HZB.out; simp [World.cell?, this]
                have HST := Lib.hid (strs_lit ZW [⟨#[120, 10]⟩, ⟨#[46, 46, 10]⟩, ⟨#[121, 32, 122, 10]⟩] (by simp [maxLen]) (fun s hs => by simp at hs; rcases hs with rfl | rfl | rfl <;> (simp [maxLen] <;> decide)))
                have BA := Lib.hid (below_alloc ZW (.cells (List.map Value.string [⟨#[120, 10]⟩, ⟨#[46, 46, 10]⟩, ⟨#[121, 32, 122, 10]⟩]).toArray 9))
                go_upto_region 14 with (first
                  | (go_at_call 70
                     refine (of_any g _ _ 3 3 [⟨#[120, 10]⟩, ⟨#[46, 46, 10]⟩, ⟨#[121, 32, 122, 10]⟩] _ (HCZ.out.below BA.out) (by omega) HST.out (by omega) (by omega) (fun x e => by injection e with e; subst e; simp; omega)).mono ?_
                     rintro e w9 ⟨s, hs, rfl, c9, g9⟩
                     have hsz : s.size ≤ 8 := (by simp only [List.mem_cons, List.not_mem_nil, or_false] at hs; rcases hs with rfl | rfl | rfl <;> decide)
                     have B9 := Lib.hid (show w9.heap[gx]? = some (.cells #[.int .i64 kd, .int .i64 f, .int .i64 tw, .slice none 0 0] 78 (0, 0)) from (g9.block gx (Nat.lt_of_lt_of_le hgz BA.out.size) NGX.out).trans ((Below.heap_alloc _ _ _ hgz).trans HZB.out))
                     have k9 : ∀ o, (w9.alloc o).cell? ⟨gx, 3, none⟩ = some (.slice none 0 0) := (fun o => cell_keep (below_alloc w9 o) (by have := B9.out; simp [World.cell?, this]))
                     have f9 : ∀ o j, (w9.alloc o).frozen? ⟨gx, j, none⟩ = false := (fun o j => ((below_alloc w9 o).frozen (Array.getElem?_eq_some_iff.1 B9.out).1).trans (by have := B9.out; simp [World.frozen?, this])))
                  | fail)
                have hg9 : gx < w9.heap.size := (Array.getElem?_eq_some_iff.1 B9.out).1
                have HO9 := Lib.hid ((HOZ.out.below BA.out).keptg g9 hgB)
                have HG9 := Lib.hid ((grown_below HGZ.out BA.out).trans g9)
                have HL9 := Lib.hid ((HLZ.out.below BA.out).kept g9 (fun b e e2 => by injection e with e; have := (HLZ.out.lt e2).1; omega))
                have BS := Lib.hid (below_alloc w9 (.cells #[.string s] 9))
                have OU := Lib.hid (OwnV.lit w9 B (Nat.le_trans hBx (Nat.le_of_lt hg9)) [s] (by simp [maxLen]) (fun t ht => by simp at ht; rw [ht]; unfold maxLen; omega))
                have HAPU := Lib.hid (show ∀ i, BlkR v rows i → i < w9.heap.size from fun i e => (HO9.out.lt e).2)
                obtain ⟨u, HU⟩ : ∃ u, Hid (u = w9.heap.size) := ⟨_, rfl⟩
                rw [← HU.out]
                obtain ⟨VW, HVW⟩ : ∃ VW, Hid (VW = (w9.alloc (.cells #[.string s] 9)).setCell ⟨gx, 3, none⟩ (.slice (some ⟨u, 0, none⟩) 1 1)) := ⟨_, rfl⟩
                rw [← HVW.out]
                have HOV := Lib.hid (show OwnOd VW B v p rows by rw [HVW.out]; exact (HO9.out.below BS.out).wrote (Wrote.set (fun i => i = gx) _ _ _ rfl) (fun i e e2 => by have := HAPX.out i e; omega))
                have HGV := Lib.hid (show w.grownBy VW (some g) by rw [HVW.out]; exact grown_set (grown_below HG9.out BS.out) hwx)
                have HLV := Lib.hid (show OwnV VW w.heap.size (.slice Al nl cl) l by rw [HVW.out]; exact (HL9.out.below BS.out).wrote (Wrote.set (fun i => i = gx) _ _ _ rfl) (fun i e e2 => by have := HB.out i e; omega))
                have HCV := Lib.hid (show Curs VW g (M + 634 + 8 * (3 - k) + 8) by rw [HVW.out]; exact ((c9.below BS.out).set hgx).more (by omega))
                have HVB := Lib.hid (show VW.heap[gx]? = some (.cells #[.int .i64 kd, .int .i64 f, .int .i64 tw, .slice (some ⟨u, 0, none⟩) 1 1] 78 (0, 0)) by
                  rw [HVW.out]; exact (heap_set_sameO ((Below.heap_alloc _ _ _ hg9).trans B9.out)).trans rfl)
                have HUV := Lib.hid (show OwnV VW B (.slice (some ⟨u, 0, none⟩) 1 1) [s] by
                  rw [HVW.out, HU.out]; exact OU.out.wrote (Wrote.set (fun i => i = gx) _ _ _ rfl) (fun i e e2 => by simp [Value.ownBlock] at e; omega))
                have HUX := Lib.hid (show ∀ i, (Value.slice (some ⟨u, 0, none⟩) 1 1).ownBlock = some i → ¬ BlkR v rows i from fun i e e2 => by have h1 := HAPU.out i e2; have h2 := HU.out; simp [Value.ownBlock] at e; omega)
                have hsx : [s].length ≤ 4 := by simp
                clear c9 g9 HO9 HG9 HL9 OU HAPU HST HOZ HGZ HLZ HCZ HZB BA k9 f9 hg9 B9 BS HVW HU z0 z3 hs
                have hgv : gx < VW.heap.size := (Array.getElem?_eq_some_iff.1 HVB.out).1
                have x0 : VW.cell? ⟨gx, 0, none⟩ = some (.int .i64 kd) := by have := HVB.out; simp [World.cell?, this]
                have x1 : VW.cell? ⟨gx, 1, none⟩ = some (.int .i64 f) := by have := HVB.out; simp [World.cell?, this]
                have x2 : VW.cell? ⟨gx, 2, none⟩ = some (.int .i64 tw) := by have := HVB.out; simp [World.cell?, this]
                have x3 : VW.cell? ⟨gx, 3, none⟩ = some (.slice (some ⟨u, 0, none⟩) 1 1) := by have := HVB.out; simp [World.cell?, this]
                have BV := Lib.hid (below_alloc VW (.cells #[.int .i64 kd, .int .i64 f, .int .i64 tw, .slice (some ⟨u, 0, none⟩) 1 1] 78))
                have HOK := Lib.hid (show OdOk ⟨kd, f, tw, [s]⟩ from ⟨⟨by dsimp only; omega, by dsimp only; omega⟩, ⟨by dsimp only; omega, by dsimp only; omega⟩, ⟨by dsimp only; omega, by dsimp only; omega⟩, HUV.out.small⟩)
                go_wp2_with (first
                  | (at_builtin
                     refine wpList_od (.tmp 59) (.tmp 61) B v p rows (HOV.out.below BV.out) ⟨kd, f, tw, [s]⟩ HOK.out (.slice (some ⟨u, 0, none⟩) 1 1) (HUV.out.below BV.out) HUX.out VW.heap.size (by simp) (by simp) (by simp) (by simp) (by have := HPL.out; omega) (by have := BV.out.size; omega) rfl rfl rfl rfl ?_
                     intro v10 w10 o10 g10 p10
                     have HFB := Lib.hid (show ∀ b, v.ownBlock = some b → B ≤ b ∧ b < gx from fun b e => ⟨(HOV.out.lt (blk_ownE e)).1, HAPX.out b (blk_ownE e)⟩)
                     have G10 := Lib.hid (grown_more (grown_below HGV.out BV.out) g10 (fun b e => .inl (Nat.le_trans hB2 (HFB.out b e).1)))
                     have C10 := Lib.hid ((HCV.out.below BV.out).kept g10 (fun b e => by have := (HFB.out b e).1; omega))
                     have L10 := Lib.hid ((HLV.out.below BV.out).kept g10 (fun b e e2 => by have := (HFB.out b e).1; have := HB.out b e2; omega))
                     have N10 := Lib.hid (show B ≤ w10.heap.size from Nat.le_trans (by have := BV.out.size; omega) g10.size)
                     have O10 := Lib.hid o10
                     clear o10 g10 p10)
                  | fail)
                go_roundw
                case rel => exact ⟨k - 1, v10, p ++ [⟨kd, f, tw, [s]⟩], _, rfl, rfl, by omega, O10.out, Lib.hid (by have := HPL.out; rw [List.length_append, List.length_singleton]; omega), Lib.hid (all_snocO HPS.out hsx), Lib.hid (C10.out.more (by omega)), G10, L10, N10⟩
                case measure => simp [intOf]; omega
              · have q3 : decide (kd ≤ 3) = false := by simpa using h2
                clear h3 h4 h2
                obtain ⟨ZW, HZW⟩ : ∃ ZW, Hid (ZW = YW) := ⟨_, rfl⟩
                obtain ⟨tw, hto⟩ : ∃ tw, Hid (tw = f) := ⟨_, rfl⟩
                have HZB := Lib.hid (show ZW.heap[gx]? = some (.cells #[.int .i64 kd, .int .i64 f, .int .i64 tw, .slice none 0 0] 78 (0, 0)) by rw [HZW.out, hto.out]; exact HYB.out)
                have hto0 : 0 ≤ tw := by have := hto.out; omega
                have hto9 : tw ≤ 9 := by have := hto.out; omega
                have HOZ := Lib.hid (show OwnOd ZW B v p rows by rw [HZW.out]; exact HOY.out)
                have HGZ := Lib.hid (show w.grownBy ZW (some g) by rw [HZW.out]; exact HGY.out)
                have HLZ := Lib.hid (show OwnV ZW w.heap.size (.slice Al nl cl) l by rw [HZW.out]; exact HLY.out)
                have HCZ := Lib.hid (show Curs ZW g (M + 634 + 8 * (3 - k) + 6) by rw [HZW.out]; exact HCY.out.more (by omega))
                go_upto_region 12 with fail
                rw [← HZW.out]
                clear HYB HOY HGY HLY HCY y0 y2 y3 fy hto HZW hgy
                have hgz : gx < ZW.heap.size := (Array.getElem?_eq_some_iff.1 HZB.out).1
                have z0 : ZW.cell? ⟨gx, 0, none⟩ = some (.int .i64 kd) := by have := HZB.out; simp [World.cell?, this]
                have z3 : ZW.cell? ⟨gx, 3, none⟩ = some (.slice none 0 0) := by have := HZB.out; simp [World.cell?, this]
                obtain ⟨VW, HVW⟩ : ∃ VW, Hid (VW = ZW) := ⟨_, rfl⟩
                go_upto_region 14 with fail
                rw [← HVW.out]
                have HOV := Lib.hid (show OwnOd VW B v p rows by rw [HVW.out]; exact HOZ.out)
                have HGV := Lib.hid (show w.grownBy VW (some g) by rw [HVW.out]; exact HGZ.out)
                have HLV := Lib.hid (show OwnV VW w.heap.size (.slice Al nl cl) l by rw [HVW.out]; exact HLZ.out)
                have HCV := Lib.hid (show Curs VW g (M + 634 + 8 * (3 - k) + 8) by rw [HVW.out]; exact HCZ.out.more (by omega))
                have HVB := Lib.hid (show VW.heap[gx]? = some (.cells #[.int .i64 kd, .int .i64 f, .int .i64 tw, .slice none 0 0] 78 (0, 0)) by rw [HVW.out]; exact HZB.out)
                have HUV := Lib.hid (show OwnV VW B (.slice none 0 0) [] from OwnV.nil_)
                have HUX := Lib.hid (show ∀ i, (Value.slice none 0 0).ownBlock = some i → ¬ BlkR v rows i from fun i e => by simp [Value.ownBlock] at e)
                have hsx : ([] : List ByteArray).length ≤ 4 := by simp
                clear HOZ HGZ HLZ HCZ HZB HVW z0 z3 hgz
                have hgv : gx < VW.heap.size := (Array.getElem?_eq_some_iff.1 HVB.out).1
                have x0 : VW.cell? ⟨gx, 0, none⟩ = some (.int .i64 kd) := by have := HVB.out; simp [World.cell?, this]
                have x1 : VW.cell? ⟨gx, 1, none⟩ = some (.int .i64 f) := by have := HVB.out; simp [World.cell?, this]
                have x2 : VW.cell? ⟨gx, 2, none⟩ = some (.int .i64 tw) := by have := HVB.out; simp [World.cell?, this]
                have x3 : VW.cell? ⟨gx, 3, none⟩ = some (.slice none 0 0) := by have := HVB.out; simp [World.cell?, this]
                have BV := Lib.hid (below_alloc VW (.cells #[.int .i64 kd, .int .i64 f, .int .i64 tw, .slice none 0 0] 78))
                have HOK := Lib.hid (show OdOk ⟨kd, f, tw, []⟩ from ⟨⟨by dsimp only; omega, by dsimp only; omega⟩, ⟨by dsimp only; omega, by dsimp only; omega⟩, ⟨by dsimp only; omega, by dsimp only; omega⟩, HUV.out.small⟩)
                go_wp2_with (first
                  | (at_builtin
                     refine wpList_od (.tmp 59) (.tmp 61) B v p rows (HOV.out.below BV.out) ⟨kd, f, tw, []⟩ HOK.out (.slice none 0 0) (HUV.out.below BV.out) HUX.out VW.heap.size (by simp) (by simp) (by simp) (by simp) (by have := HPL.out; omega) (by have := BV.out.size; omega) rfl rfl rfl rfl ?_
                     intro v10 w10 o10 g10 p10
                     have HFB := Lib.hid (show ∀ b, v.ownBlock = some b → B ≤ b ∧ b < gx from fun b e => ⟨(HOV.out.lt (blk_ownE e)).1, HAPX.out b (blk_ownE e)⟩)
                     have G10 := Lib.hid (grown_more (grown_below HGV.out BV.out) g10 (fun b e => .inl (Nat.le_trans hB2 (HFB.out b e).1)))
                     have C10 := Lib.hid ((HCV.out.below BV.out).kept g10 (fun b e => by have := (HFB.out b e).1; omega))
                     have L10 := Lib.hid ((HLV.out.below BV.out).kept g10 (fun b e e2 => by have := (HFB.out b e).1; have := HB.out b e2; omega))
                     have N10 := Lib.hid (show B ≤ w10.heap.size from Nat.le_trans (by have := BV.out.size; omega) g10.size)
                     have O10 := Lib.hid o10
                     clear o10 g10 p10)
                  | fail)
                go_roundw
                case rel => exact ⟨k - 1, v10, p ++ [⟨kd, f, tw, []⟩], _, rfl, rfl, by omega, O10.out, Lib.hid (by have := HPL.out; rw [List.length_append, List.length_singleton]; omega), Lib.hid (all_snocO HPS.out hsx), Lib.hid (C10.out.more (by omega)), G10, L10, N10⟩
                case measure => simp [intOf]; omega
  case rest => as_aux_lemma =>
    obtain ⟨⟨p, rows', o4, hp4, hq4⟩, c4, g4, ol4, ha4, hf4, hgB4, hnw4⟩ := hcut
    obtain ⟨np, Hnp⟩ : ∃ np, Hid (p.length = np) := ⟨_, rfl⟩
    obtain ⟨Ap, cp, hve, hcp, _⟩ := o4.form Hnp.out
    subst hve
    have hnp : np ≤ 24 := by rw [← Hnp.out]; exact hp4
    have HPQ := Lib.hid (show ∀ x ∈ p, x.new.length ≤ 4 from hq4)
    have HPQ5 := Lib.hid (show ∀ x ∈ p, x.new.length ≤ 5 from fun x hx => by have := hq4 x hx; omega)
    have HO4 := Lib.hid o4
    have HC4 := Lib.hid c4
    have HG4 := Lib.hid g4
    have HL4 := Lib.hid ol4
    have HNW4 := Lib.hid hnw4
    clear hq4 o4 c4 g4 ol4 hp4 hnw4
    go_upto_if 65 with fail
    go_cut [] (fun wx => DrwO w wx g B (M + 670) 5 (.slice Ap np cp) (.slice Al nl cl) l)
    case first => as_aux_lemma =>
      by_cases h0 : 0 < np
      · have q0 : decide (0 < np) = true := by simp; omega
        go_wp2_with fail
        refine (pick_any g _ np _ HC4.out (by omega) (by omega)).mono ?_
        rintro e w5 ⟨k, rfl, hk0, hk1, c5, g5⟩
        obtain ⟨k, rfl⟩ := Int.eq_ofNat_of_zero_le hk0
        have hkn : k < np := by omega
        clear hk1 hk0 q0
        go_wp2_with fail
        refine (pick_any g _ 15 _ c5 (by omega) (by omega)).mono ?_
        rintro e w6 ⟨y, rfl, hy0, hy1, c6, g6⟩
        have o6 := (HO4.out.keptg g5 hgB).keptg g6 hgB
        have HC6 := Lib.hid c6
        have HG6 := Lib.hid ((HG4.out.trans g5).trans g6)
        have hlf : ∀ b, some g = some b → (Value.slice Al nl cl).ownBlock ≠ some b := fun b e e2 => by injection e with e; have := (HL4.out.lt e2).1; omega
        have HL6 := Lib.hid ((HL4.out.kept g5 hlf).kept g6 (fun b e e2 => by injection e with e; have := (HL4.out.lt e2).1; omega))
        have HNW6 := Lib.hid (show B ≤ w6.heap.size from Nat.le_trans HNW4.out (Nat.le_trans g5.size g6.size))
        obtain ⟨gb, x, a1, m1, c1, rfl, hb0, hgb, hx, hr, k0, k1, k2, k3, ou, hm1, hok, hfz⟩ := o6.at_ hkn
        have HX := Lib.hid hx
        have HR := Lib.hid hr
        have HO6 := Lib.hid o6
        have HOU := Lib.hid ou
        have HXN := Lib.hid (HPQ.out x (List.mem_of_getElem? hx))
        have hgg : g < gb := by omega
        have hwb : w.heap.size ≤ gb := by omega
        have HSL := Lib.hid (show ∀ (wy : World) (j : Nat) (u : Value), OwnV wy w.heap.size (.slice Al nl cl) l → OwnV (wy.setCell ⟨gb, j, none⟩ u) w.heap.size (.slice Al nl cl) l from fun wy j u ho => ho.wrote (Wrote.set (fun i => i = gb) wy _ _ rfl) (fun b e e2 => by have := HB.out b e; omega))
        have HSZ := Lib.hid (show ∀ (wy : World) (j : Nat) (u : Value), (wy.setCell ⟨gb, j, none⟩ u).heap.size = wy.heap.size from fun wy j u => by simp [World.setCell])
        clear hx hr o6 ou hok c5 c6 g5 g6 hlf
        by_cases e0 : y = 0
        · have q1 : (y == 0) = true := by simp [e0]
          clear e0 hy1
          obtain ⟨z, hz⟩ : ∃ z, IntKind.i64.wrap (x.fr + 1) = z := ⟨_, rfl⟩
          have hzo : i64ok z := by rw [← hz]; exact wrap_okO _
          have HO7 := Lib.hid (HO6.out.setFr HX.out HR.out z hzo)
          have HQ := Lib.hid (all_set (k := k) HPQ5.out (t := { x with fr := z }) (by have := HXN.out; dsimp only; omega))
          go_wp2
          go_meet
          case rel => exact ⟨⟨_, _, HO7.out, by simp [Hnp.out, hnp], HQ.out⟩, (HC6.out.set hgg).more (by omega), grown_set HG6.out hwb, HSL.out _ _ _ HL6.out, HB.out, hB2, hgB, by rw [HSZ.out]; exact HNW6.out⟩
        · have q1 : (y == 0) = false := by simpa using e0
          by_cases e1 : y = 1
          · have q2 : (y == 1) = true := by simp [e1]
            clear e0 e1 hy1
            have hst := strs_one w6 ⟨#[46, 10]⟩ (by decide)
            have bA := Lib.hid (below_alloc w6 (.cells #[.string ⟨#[46, 10]⟩] 9))
            have hum : x.new.length ≤ 4 := HXN.out
            have h6B : B ≤ w6.heap.size := HNW6.out
            go_wp2_with (first
              | (at_builtin; refine app_strs (.tmp 90) (.tmp 91) B (.slice a1 m1 c1) x.new (HOU.out.below (below_alloc _ _)) _ 1 1 [⟨#[46, 10]⟩] hst (by omega) (by simp; omega) rfl rfl rfl rfl ?_
                 intro v7 w7 o7 g7 p7
                 have hgr7 : w6.grownBy w7 (Value.slice a1 m1 c1).ownBlock := grown_more (grown_alloc (grown_refl w6 _) (.cells #[.string ⟨#[46, 10]⟩] 9)) g7 (fun b e => .inr e)
                 have HO7 := Lib.hid (HO6.out.turnNew HX.out HR.out hgr7 o7 (by
                   rcases p7 with p7 | p7
                   · exact .inl p7
                   · exact .inr (fun b e => by rw [p7] at e; injection e with e; simp at e; omega)))
                 have HUB := Lib.hid (show some gb ≠ (Value.slice a1 m1 c1).ownBlock from fun e => HO6.out.own.self_apart HR.out (j := 3) (d := textsD (.slice a1 m1 c1) x.new) rfl (by rw [textsD_blocks]; simp [← e]))
                 have k73 : w7.cell? ⟨gb, k * 4 + 3, none⟩ = some (.slice a1 m1 c1) := hgr7.cell k3 HUB.out
                 have f7 : ∀ j, w7.frozen? ⟨gb, j, none⟩ = false := fun j => (hgr7.frozen_far ⟨gb, j, none⟩ hgb HUB.out).trans (hfz j)
                 have HG7 := Lib.hid (grown_more HG6.out hgr7 (fun b e => .inl (Nat.le_trans hB2 (HOU.out.lt e).1)))
                 have HC7 := Lib.hid ((HC6.out.below bA.out).kept g7 (fun b e => by have := (HOU.out.lt e).1; omega))
                 have HL7 := Lib.hid (HL6.out.kept hgr7 (fun b e e2 => by have := (HOU.out.lt e).1; have := HB.out b e2; omega))
                 have HNW7 := Lib.hid (show B ≤ w7.heap.size from Nat.le_trans h6B hgr7.size)
                 obtain ⟨u7A, u7c, hu7, _, _⟩ := o7.form (show (x.new ++ [(⟨#[46, 10]⟩ : ByteArray)]).length = m1 + 1 by simp [HOU.out.strs.len])
                 subst hu7)
              | fail)
            go_meet
            case rel => exact ⟨⟨_, _, HO7.out, by simp [Hnp.out, hnp], all_set (k := k) (t := { x with new := x.new ++ [⟨#[46, 10]⟩] }) HPQ5.out (by simp; omega)⟩, (HC7.out.set hgg).more (by omega), grown_set HG7.out hwb, HSL.out _ _ _ HL7.out, HB.out, hB2, hgB, by rw [HSZ.out]; exact HNW7.out⟩
          · have q2 : (y == 1) = false := by simpa using e1
            by_cases e2 : y = 2
            · have q3 : (y == 2) = true := by simp [e2]
              clear e0 e1 e2 hy1
              have HNE := Lib.hid (show some gb ≠ some g from fun e => by injection e with e; omega)
              have HNX := Lib.hid (show some g ≠ some gb from fun e => by injection e with e; omega)
              have hk0 : (0 : Int) ≤ (k : Int) := by omega
              have hk1 : (k : Int) < (np : Int) := by omega
              go_wp2_with fail
              refine (pick_any g _ 7 _ HC6.out (by omega) (by omega)).mono ?_
              rintro e w7 ⟨q, rfl, hq0, hq1, c7, g7⟩
              have f7 : ∀ j, w7.frozen? ⟨gb, j, none⟩ = false := fun j => (g7.frozen_far ⟨gb, j, none⟩ hgb HNE.out).trans (hfz j)
              have k70 := cell_past3O g7 k0 HNX.out
              have o7 := HO6.out.keptg g7 hgB
              have HO8 := Lib.hid (o7.setKd HX.out HR.out q ⟨by omega, by omega⟩)
              have HQ := Lib.hid (all_set (k := k) HPQ5.out (t := { x with kd := q }) (by have := HXN.out; dsimp only; omega))
              have HC8 := Lib.hid (c7.set (p := ⟨gb, k * 4, none⟩) (u := .int .i64 q) hgg)
              have HG8 := Lib.hid (grown_set (p := ⟨gb, k * 4, none⟩) (u := .int .i64 q) (HG6.out.trans g7) hwb)
              have HL8 := Lib.hid (HSL.out _ (k * 4) (.int .i64 q) (HL6.out.kept g7 (fun b e e2 => by injection e with e; have := (HL6.out.lt e2).1; omega)))
              have HNW8 := Lib.hid (show B ≤ w7.heap.size from Nat.le_trans HNW6.out g7.size)
              clear o7 c7 g7
              go_wp2
              go_meet
              case rel => exact ⟨⟨_, _, HO8.out, by simp [Hnp.out, hnp], HQ.out⟩, HC8.out.more (by omega), HG8.out, HL8.out, HB.out, hB2, hgB, by rw [HSZ.out]; exact HNW8.out⟩
            · have q3 : (y == 2) = false := by simpa using e2
              clear e0 e1 e2 hy1
              go_wp2
              go_meet
              case rel => exact ⟨⟨_, _, HO6.out, by simp [Hnp.out, hnp], HPQ5.out⟩, HC6.out.more (by omega), HG6.out, HL6.out, HB.out, hB2, hgB, HNW6.out⟩
      · have q0 : decide (0 < np) = false := by simp; omega
        go_wp2
        go_meet
        case rel => exact ⟨⟨_, _, HO4.out, by simp [Hnp.out, hnp], HPQ5.out⟩, HC4.out.more (by omega), HG4.out, HL4.out, HB.out, hB2, hgB, HNW4.out⟩
    case rest => as_aux_lemma =>
      obtain ⟨⟨p', rows2, o9, hp9, hq9⟩, c9, g9, ol9, ha9, hf9, hgB9, hnw9⟩ := hcut
      have HQ9 := Lib.hid hq9
      have HF := Lib.hid (show Fine 8 l from fun s hs => ⟨(HLS.out s hs).2, (HLS.out s hs).1⟩)
      clear hq9
      go_wp2
      go_ret2
      exact ⟨_, l, _, p', rows2, rfl, ol9, by rw [Hnl.out]; exact hnl, HF.out, o9.more hf9, hp9, HQ9.out, c9.more (by omega), g9⟩

end Go.Proofs.YtnnaigoomipklaaGreatDoor
