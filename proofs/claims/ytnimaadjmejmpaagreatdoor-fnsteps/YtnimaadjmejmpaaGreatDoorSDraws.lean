/-
  A list of a step is another one by now; what is known of drawn steps.
  Steps that are drawn.
  Lines and hunks, lines and steps drawn together.
  The laws' own comparison of steps, where both are the same.
-/
import Derived.Test.YtnimaadjmejmpaaGreatDoorSLaws
import Derived.Test.YtnimaadjmejmpaaGreatDoorSMath
import Derived.Test.YtnimaadjmejmpaaGreatDoorSStepsS
import Derived.Test.YtnimaadjmejmpaaGreatDoorHDrawAB
import Derived.Test.YtnimaadjmejmpaaGreatDoorDraw2
import Derived.Deep.DeepCutAuto
import Derived.Test.YtnimaadjmejmpaaGreatDoorSMem
import Derived.Test.YtnimaadjmejmpaaGreatDoorHMem
set_option linter.unusedSimpArgs false
set_option linter.unusedVariables false
namespace Go.Proofs.YtnimaadjmejmpaaGreatDoor
open Go.RowKit M

theorem D.blocksL_at : ∀ {cs : List D} {g : Nat}, g ∈ D.blocksL cs → ∃ (p : Nat) (d : D), cs[p]? = some d ∧ g ∈ d.blocks
  | [], g, h => by simp [D.blocksL] at h
  | c :: r, g, h => by
    rw [D.blocksL, List.mem_append] at h
    rcases h with h | h
    · exact ⟨0, c, rfl, h⟩
    · obtain ⟨p, d, h1, h2⟩ := D.blocksL_at h
      exact ⟨p + 1, d, by simpa using h1, h2⟩
theorem setCell_twice (w : World) (blk off : Nat) (v v' : Value) : (w.setCell ⟨blk, off, none⟩ v).setCell ⟨blk, off, none⟩ v' = w.setCell ⟨blk, off, none⟩ v' := by
  unfold World.setCell
  simp only [World.mk.injEq, true_and, and_true]
  apply Array.ext_getElem?
  intro i
  simp only [Array.getElem?_modify]
  split
  · cases w.heap[i]? with
    | none => rfl
    | some o => cases o <;> simp
  · rfl
theorem heap_set_like {w w' : World} {p : Addr} {u : Value} {k : Nat} (h : w'.heap[k]? = w.heap[k]?) : (w'.setCell p u).heap[k]? = (w.setCell p u).heap[k]? := by
  unfold World.setCell
  simp only [Array.getElem?_modify, h]
theorem Wrote.set2 {S : Nat → Prop} {w w' : World} (p : Addr) (u : Value) (h : Wrote S w w') : Wrote S (w.setCell p u) (w'.setCell p u) :=
  ⟨h.os, h.tape, h.output, by simpa [World.setCell] using h.size, fun k hk hn => heap_set_like (h.block k (by simpa [World.setCell] using hk) hn)⟩

/-- What a cell leads to is another datum by now, in the blocks that it had or in new ones. -/
theorem OwnR.turn {w w' : World} {base n cap g k j sz : Nat} {t : TypeId} {rows : List (List D)} {r : List D} {d d' : D} (h : OwnR w base (.slice (some ⟨g, 0, none⟩) n cap) t sz rows) (hk : rows[k]? = some r) (hj : r[j]? = some d) (hw : Wrote (fun i => i ∈ d.blocks) w w') (hd : Owns w' base d') (hf : ∀ i ∈ d'.blocks, i ∈ d.blocks ∨ w.heap.size ≤ i) :
    OwnR (w'.setCell ⟨g, k * sz + j, none⟩ d'.val) base (.slice (some ⟨g, 0, none⟩) n cap) t sz (rows.set k (r.set j d')) := by
  have hr := h.wide r (List.mem_of_getElem? hk)
  have hjr : j < r.length := (List.getElem?_eq_some_iff.1 hj).1
  have hkr : k < rows.length := (List.getElem?_eq_some_iff.1 hk).1
  have hj2 : j < sz := by rw [← hr]; exact hjr
  have s0 := h.put hk hj2 (d' := .lit (.int .i64 0)) (Owns.lit rfl) (fun i hi => by simp [D.blocks] at hi)
  have hsa := h.self_apart hk hj
  have hglt := (h.lt (BlkR.of_self (g := g))).2
  have hat : rows.flatten[k * sz + j]? = some d := by rw [flat_get h.wide hk hj2]; exact hj
  have hnd : (D.blocksL rows.flatten).Nodup := by
    have := h.own.nodup
    rw [D.blocks, List.nodup_append] at this
    exact this.2.1
  have hno : ∀ i, BlkR (.slice (some ⟨g, 0, none⟩) n cap) (rows.set k (r.set j (.lit (.int .i64 0)))) i → i ∉ d.blocks := by
    intro i hi hd
    rcases List.mem_append.1 hi with h1 | h1
    · simp [Value.ownBlock] at h1
      subst h1
      exact hsa hd
    · rw [← flat_set h.wide hk hj2] at h1
      obtain ⟨q, e, h2, h3⟩ := D.blocksL_at h1
      rcases set_get h2 with ⟨h4, h5⟩ | ⟨h4, h5⟩
      · rw [h5] at h3; simp [D.blocks] at h3
      · exact nodup_at hnd hat h5 h4 i hd h3
  have s1 := s0.wrote (hw.set2 ⟨g, k * sz + j, none⟩ (.int .i64 0)) (fun i hi => hno i hi)
  have s2 := s1.put (k := k) (r := r.set j (.lit (.int .i64 0))) (set_eq hkr) hj2 (d' := d') (hd.wrote (Wrote.set (fun i => i = g) w' ⟨g, k * sz + j, none⟩ (.int .i64 0) rfl) (fun i hi e => by
      rcases hf i hi with h1 | h1
      · rw [e] at h1; exact hsa h1
      · omega)) (fun i hi hb => by
      rcases hf i hi with h1 | h1
      · exact hno i hb h1
      · rcases blk_set h.wide hk hj2 hb with e | e
        · have := (h.lt e).2; omega
        · simp [D.blocks] at e)
  rw [List.set_set, List.set_set, setCell_twice] at s2
  exact s2

section
variable {w w' : World} {base n cap g k : Nat} {p : List Sp} {rows : List (List D)} {x : Sp} {u u2 u' : Value}
theorem OwnSt.turnOld (h : OwnSt w base (.slice (some ⟨g, 0, none⟩) n cap) p rows) (hx : p[k]? = some x) (hr : rows[k]? = some (spRow x u u2)) (hw : w.grownBy w' u.ownBlock) {r : List ByteArray} (ho : OwnV w' base u' r) (ha : u'.ownBlock = u.ownBlock ∨ ∀ b, u'.ownBlock = some b → w.heap.size ≤ b) :
    OwnSt (w'.setCell ⟨g, k * 6 + 2, none⟩ u') base (.slice (some ⟨g, 0, none⟩) n cap) (p.set k { x with old := r }) (rows.set k (spRow { x with old := r } u' u2)) := by
  have hok := h.ok x (List.mem_of_getElem? hx)
  refine h.reset hx (h.own.turn hr (j := 2) (d := textsD u x.old) (d' := textsD u' r) rfl (Wrote.of_grown hw (fun i e => by rw [textsD_blocks]; simp [e])) ho.datum (fun i hi => ?_)) _ ⟨u', u2, rfl⟩ ⟨hok.fr, hok.to_, hok.at_, hok.en, ho.small, hok.new⟩
  rw [textsD_blocks] at hi ⊢
  rcases ha with ha | ha
  · rw [ha] at hi; exact .inl hi
  · exact .inr (ha i (by simpa using hi))
theorem OwnSt.turnNew (h : OwnSt w base (.slice (some ⟨g, 0, none⟩) n cap) p rows) (hx : p[k]? = some x) (hr : rows[k]? = some (spRow x u u2)) (hw : w.grownBy w' u2.ownBlock) {r : List ByteArray} (ho : OwnV w' base u' r) (ha : u'.ownBlock = u2.ownBlock ∨ ∀ b, u'.ownBlock = some b → w.heap.size ≤ b) :
    OwnSt (w'.setCell ⟨g, k * 6 + 5, none⟩ u') base (.slice (some ⟨g, 0, none⟩) n cap) (p.set k { x with new := r }) (rows.set k (spRow { x with new := r } u u')) := by
  have hok := h.ok x (List.mem_of_getElem? hx)
  refine h.reset hx (h.own.turn hr (j := 5) (d := textsD u2 x.new) (d' := textsD u' r) rfl (Wrote.of_grown hw (fun i e => by rw [textsD_blocks]; simp [e])) ho.datum (fun i hi => ?_)) _ ⟨u, u', rfl⟩ ⟨hok.fr, hok.to_, hok.at_, hok.en, hok.old, ho.small⟩
  rw [textsD_blocks] at hi ⊢
  rcases ha with ha | ha
  · rw [ha] at hi; exact .inl hi
  · exact .inr (ha i (by simpa using hi))
end

/-- What is known of a step made of drawn hunks; and of a drawn one. -/
def smallP (x : Sp) : Prop := (-1 ≤ x.fr ∧ x.fr ≤ 200 ∧ -1 ≤ x.to_ ∧ x.to_ ≤ 200 ∧ -200 ≤ x.at_ ∧ x.at_ ≤ 300 ∧ -200 ≤ x.en ∧ x.en ≤ 300) ∧ x.old.length ≤ 10 ∧ x.new.length ≤ 3 ∧ (∀ s ∈ x.old, s.size ≤ 8) ∧ ∀ s ∈ x.new, s.size ≤ 8
def smallQ (x : Sp) : Prop := (-1 ≤ x.fr ∧ x.fr ≤ 230 ∧ -1 ≤ x.to_ ∧ x.to_ ≤ 230 ∧ -200 ≤ x.at_ ∧ x.at_ ≤ 301 ∧ -200 ≤ x.en ∧ x.en ≤ 300) ∧ x.old.length ≤ 11 ∧ x.new.length ≤ 3 ∧ (∀ s ∈ x.old, s.size ≤ 8) ∧ ∀ s ∈ x.new, s.size ≤ 8
theorem smallP.q {x : Sp} (h : smallP x) : smallQ x := by
  obtain ⟨h1, h2, h3, h4, h5⟩ := h
  exact ⟨by omega, by omega, h3, h4, h5⟩
theorem norm_small {l : List ByteArray} (hl : ∀ s ∈ l, s.size ≤ 8) (hn : l.length ≤ 9) : ∀ {hs : List Hk} {more : Int} {b : Nat}, (∀ x ∈ hs, -1 ≤ x.at_ ∧ x.at_ ≤ 100 ∧ 0 ≤ x.gone ∧ x.gone ≤ 6 ∧ x.new.length ≤ 3 ∧ ∀ s ∈ x.new, s.size ≤ 8) → -(6 * (b : Int)) ≤ more → more ≤ 3 * (b : Int) → b + hs.length ≤ 12 → ∀ y ∈ normFrom l more hs, smallP y
  | [], more, b, _, _, _, _, y, hy => by simp [normFrom] at hy
  | x :: hs, more, b, h, h1, h2, h3, y, hy => by
    obtain ⟨q1, q2, q3, q4, q5, q6⟩ := h x (by simp)
    simp only [List.length_cons] at h3
    rcases List.mem_cons.1 hy with rfl | hy
    · refine ⟨?_, ?_, q5, fun s hs => ?_, q6⟩
      · unfold stepOf numI
        dsimp only
        split <;> split <;> omega
      · show (oldOf l x).length ≤ 10
        unfold oldOf
        rw [seg_len]
        omega
      · have : s ∈ oldOf l x := hs
        unfold oldOf seg at this
        exact hl s (List.mem_of_mem_take (List.mem_of_mem_drop this))
    · exact norm_small hl hn (b := b + 1) (fun z hz => h z (by simp [hz])) (by omega) (by omega) (by omega) y hy
theorem normOf_small {l : List ByteArray} (hl : ∀ s ∈ l, s.size ≤ 8) (hn : l.length ≤ 9) {hs : List Hk} (h : ∀ x ∈ hs, -1 ≤ x.at_ ∧ x.at_ ≤ 100 ∧ 0 ≤ x.gone ∧ x.gone ≤ 6 ∧ x.new.length ≤ 3 ∧ ∀ s ∈ x.new, s.size ≤ 8) (hm : hs.length ≤ 6) :
    (normOf l hs).1.length ≤ 6 ∧ ∀ y ∈ (normOf l hs).1, smallP y := by
  unfold normOf
  split
  · exact ⟨by unfold normH; rw [norm_len]; exact hm, norm_small hl hn (b := 0) h (by omega) (by omega) (by omega)⟩
  · exact ⟨by simp, fun y hy => by simp at hy⟩

end Go.Proofs.YtnimaadjmejmpaaGreatDoor

namespace Go.Proofs.YtnimaadjmejmpaaGreatDoor
open Go.RowKit M

theorem OwnSt.keptg {w w' : World} {base g : Nat} {v : Value} {p : List Sp} {rows : List (List D)} (h : OwnSt w base v p rows) (hg : w.grownBy w' (some g)) (hb : g < base) : OwnSt w' base v p rows :=
  h.wrote (Wrote.of_grown (S := fun i => i = g) hg (fun k e => (Option.some.inj e).symm)) (fun i hi e => by have := (h.lt hi).1; omega)

/-- Between two draws: the steps of one's own, the text of one's own ahead of them. -/
structure Drw (w wx : World) (g B M : Nat) (v vl : Value) (l : List ByteArray) : Prop where
  ex : ∃ p rows, OwnSt wx B v p rows ∧ p.length ≤ 6 ∧ ∀ x ∈ p, smallQ x
  cur : Curs wx g M
  grown : w.grownBy wx (some g)
  own : OwnV wx w.heap.size vl l
  ahead : ∀ b, vl.ownBlock = some b → b < B
  far : w.heap.size ≤ B

set_option maxHeartbeats 2000000 in
set_option maxRecDepth 100000 in
theorem steps_any (g M : Nat) (w : World) (h : Curs w g M) (hM : M ≤ 800000) :
    Calls Tryz.prog 42 #[.pointer (some ⟨g, 0, none⟩)] w fun e w' => ∃ vl l v p rows, e = .returned (.tuple #[vl, v]) ∧ OwnV w' w.heap.size vl l ∧ l.length ≤ 12 ∧ Fine 9 l ∧ OwnSt w' w.heap.size v p rows ∧ p.length ≤ 6 ∧ (∀ x ∈ p, smallQ x) ∧ Curs w' g (M + 700) ∧ w.grownBy w' (some g) := by
  have hlt := h.lt
  go_enter Tryz.func42, Tryz.ntmps42
  go_wp2_with fail
  refine (text2_any g M _ h (by omega)).mono ?_
  rintro e w1 ⟨vl, l, rfl, ol1, hll, hls, c1, g1⟩
  obtain ⟨nl, Hnl⟩ : ∃ nl, Hid (l.length = nl) := ⟨_, rfl⟩
  obtain ⟨Al, cl, hve, hcl, _⟩ := ol1.form Hnl.out
  subst hve
  have hnl : nl ≤ 9 := by rw [← Hnl.out]; exact hll
  have HLS := Lib.hid hls
  have HAG : ∀ x, Al = some x → x.block ≠ g := fun x e => by
    cases Al with
    | none => cases e
    | some ad =>
      injection e with e
      subst e
      have := (ol1.lt (g := ad.block) rfl).1
      omega
  clear hls hll
  have h1lt := c1.lt
  go_wp2_with fail
  refine (hunks_any g _ Al nl cl l _ c1 (by omega) ol1.strs HAG (by omega) (fun s hs => (HLS.out s (List.mem_of_getLast? hs)).2)).mono ?_
  rintro e w2 ⟨vh, hs, vsh, rfl, oh2, hhl, hsm, c2, g2⟩
  obtain ⟨nh, Hnh⟩ : ∃ nh, Hid (hs.length = nh) := ⟨_, rfl⟩
  obtain ⟨Ah, ch, hve, hch, _⟩ := oh2.form Hnh.out
  subst hve
  have ol2 := ol1.kept g2 (fun b e e2 => by have := (ol1.lt e2).1; injection e with e; omega)
  have HNS := Lib.hid (normOf_small (fun s hs => (HLS.out s hs).1) (by rw [Hnl.out]; exact hnl) hsm hhl)
  have HSM := Lib.hid (show ∀ x ∈ hs, x.new.length ≤ 1048576 from fun x hx => by have := (hsm x hx).2.2.2.2.1; omega)
  clear hsm hhl
  have G2 := g1.trans g2
  go_wp2_with fail
  refine (specNormalSteps_any Al nl cl l Ah nh ch hs _ ol2.strs hcl oh2.hks HSM.out (by omega)).mono ?_
  rintro e w3 ⟨v, rows, rfl, o3, b3⟩
  obtain ⟨P, ok, HP⟩ : ∃ P ok, Hid (normOf l hs = (P, ok)) := ⟨_, _, rfl⟩
  rw [HP.out] at o3 ⊢
  have hns := HNS.out
  rw [HP.out] at hns
  dsimp only at o3 hns ⊢
  obtain ⟨hpl, hps⟩ := hns
  obtain ⟨np, Hnp⟩ : ∃ np, Hid (P.length = np) := ⟨_, rfl⟩
  obtain ⟨Ap, cp, hve, hcp, _⟩ := o3.form Hnp.out
  subst hve
  have hnp : np ≤ 6 := by rw [← Hnp.out]; exact hpl
  have HPS := Lib.hid hps
  have HO3 := Lib.hid o3
  have HOL := Lib.hid (ol2.below b3)
  have HG3 := Lib.hid (grown_below G2 b3)
  have HC3 := Lib.hid (c2.below b3)
  have HB := Lib.hid (show ∀ b, (Value.slice Al nl cl).ownBlock = some b → b < w2.heap.size from fun b e => (ol2.lt e).2)
  have hB2 := G2.size
  obtain ⟨B, hBe⟩ : ∃ B, w2.heap.size = B := ⟨_, rfl⟩
  rw [hBe] at HO3 HB hB2
  clear hps hpl HP HNS HSM o3 b3 ol1 ol2 oh2 c1 c2 g1 g2 G2 hBe
  go_upto_if 20 with fail
  go_cut [] (fun wx => Drw w wx g B (M + 640) (.slice Ap np cp) (.slice Al nl cl) l)
  case first => as_aux_lemma =>
    by_cases h0 : 0 < np
    · have q0 : decide (0 < np) = true := by simp; omega
      go_wp2_with fail
      refine (pick_any g _ np _ HC3.out (by omega) (by omega)).mono ?_
      rintro e w4 ⟨k, rfl, hk0, hk1, c4, g4⟩
      obtain ⟨k, rfl⟩ := Int.eq_ofNat_of_zero_le hk0
      have hkn : k < np := by omega
      clear hk1 hk0 q0
      go_wp2_with fail
      refine (pick_any g _ 15 _ c4 (by omega) (by omega)).mono ?_
      rintro e w5 ⟨y, rfl, hy0, hy1, c5, g5⟩
      have hgB : g < B := by omega
      have o5 := (HO3.out.keptg g4 hgB).keptg g5 hgB
      have HC5 := Lib.hid c5
      have HG5 := Lib.hid ((HG3.out.trans g4).trans g5)
      have hlf : ∀ b, some g = some b → (Value.slice Al nl cl).ownBlock ≠ some b := fun b e e2 => by injection e with e; have := (HOL.out.lt e2).1; omega
      have HL5 := Lib.hid ((HOL.out.kept g4 hlf).kept g5 hlf)
      obtain ⟨gb, x, a1, m1, c1, a2, m2, c2, rfl, hb0, hgb, hx, hr, k0, k1, k2, k3, k4, k5, ou, hm1, ou2, hm2, hok, hfz⟩ := o5.at_ hkn
      have HX := Lib.hid hx
      have HR := Lib.hid hr
      have HXS := Lib.hid (HPS.out x (List.mem_of_getElem? hx))
      have HPQ := Lib.hid (show ∀ x ∈ P, smallQ x from fun x hx => (HPS.out x hx).q)
      have HO5 := Lib.hid o5
      have HOU := Lib.hid ou
      have hgg : g < gb := by omega
      have hwb : w.heap.size ≤ gb := by omega
      have HSL := Lib.hid (show ∀ (wy : World) (j : Nat) (u : Value), OwnV wy w.heap.size (.slice Al nl cl) l → OwnV (wy.setCell ⟨gb, j, none⟩ u) w.heap.size (.slice Al nl cl) l from fun wy j u ho => ho.wrote (Wrote.set (fun i => i = gb) wy _ _ rfl) (fun b e e2 => by have := HB.out b e; omega))
      clear hx hr o5 ou ou2 hok c4 c5 g4 g5 hlf HC3 HG3 HOL HO3
      have hfr : -1 ≤ x.fr ∧ x.fr ≤ 200 := by have := HXS.out.1; omega
      have hto : -1 ≤ x.to_ ∧ x.to_ ≤ 200 := by have := HXS.out.1; omega
      have hat : -200 ≤ x.at_ ∧ x.at_ ≤ 300 := by have := HXS.out.1; omega
      obtain ⟨hfr0, hfr1⟩ := hfr
      obtain ⟨hto0, hto1⟩ := hto
      obtain ⟨hat0, hat1⟩ := hat
      by_cases e0 : y = 0
      · have q1 : (y == 0) = true := by simp [e0]
        clear e0 hy1
        have hadd : IntKind.i64.wrap (x.fr + 1) = x.fr + 1 := by simp [IntKind.wrap, IntKind.bits, IntKind.signed]; omega
        have HO6 := Lib.hid (HO5.out.setFr HX.out HR.out (x.fr + 1) ⟨by omega, by omega⟩)
        have HQ := Lib.hid (all_set (k := k) HPQ.out (t := { x with fr := x.fr + 1 }) ⟨by have := HXS.out.1; dsimp only; omega, HXS.out.q.2⟩)
        go_wp2
        go_meet
        case rel => exact ⟨⟨_, _, HO6.out, by simp [Hnp.out, hnp], HQ.out⟩, (HC5.out.set hgg).more (by omega), grown_set HG5.out hwb, HSL.out _ _ _ HL5.out, HB.out, hB2⟩
      · have q1 : (y == 0) = false := by simpa using e0
        by_cases e1 : y = 1
        · have q2 : (y == 1) = true := by simp [e1]
          clear e0 e1 hy1
          have hadd : IntKind.i64.wrap (x.at_ + 1) = x.at_ + 1 := by simp [IntKind.wrap, IntKind.bits, IntKind.signed]; omega
          have HO6 := Lib.hid (HO5.out.setAt HX.out HR.out (x.at_ + 1) ⟨by omega, by omega⟩)
          have HQ := Lib.hid (all_set (k := k) HPQ.out (t := { x with at_ := x.at_ + 1 }) ⟨by have := HXS.out.1; dsimp only; omega, HXS.out.q.2⟩)
          go_wp2
          go_meet
          case rel => exact ⟨⟨_, _, HO6.out, by simp [Hnp.out, hnp], HQ.out⟩, (HC5.out.set hgg).more (by omega), grown_set HG5.out hwb, HSL.out _ _ _ HL5.out, HB.out, hB2⟩
        · have q2 : (y == 1) = false := by simpa using e1
          by_cases e2 : y = 2
          · have q3 : (y == 2) = true := by simp [e2]
            clear e0 e1 e2 hy1
            have hst := strs_one w5 ⟨#[122, 10]⟩ (by decide)
            have bA := Lib.hid (below_alloc w5 (.cells #[.string ⟨#[122, 10]⟩] 9))
            have hum : x.old.length ≤ 10 := HXS.out.2.1
            have h5B : B ≤ w5.heap.size := by omega
            go_wp2_with (first
              | (at_builtin; refine app_strs (.tmp 55) (.tmp 56) B (.slice a1 m1 c1) x.old (HOU.out.below (below_alloc _ _)) _ 1 1 [⟨#[122, 10]⟩] hst (by omega) (by simp; omega) rfl rfl rfl rfl ?_
                 intro v6 w6 o6 g6 p6
                 have hgr6 : w5.grownBy w6 (Value.slice a1 m1 c1).ownBlock := grown_more (grown_alloc (grown_refl w5 _) (.cells #[.string ⟨#[122, 10]⟩] 9)) g6 (fun b e => .inr e)
                 have HO6 := Lib.hid (HO5.out.turnOld HX.out HR.out hgr6 o6 (by
                   rcases p6 with p6 | p6
                   · exact .inl p6
                   · exact .inr (fun b e => by rw [p6] at e; injection e with e; simp at e; omega)))
                 have HUB := Lib.hid (show some gb ≠ (Value.slice a1 m1 c1).ownBlock from fun e => HO5.out.own.self_apart HR.out (j := 2) (d := textsD (.slice a1 m1 c1) x.old) rfl (by rw [textsD_blocks]; simp [← e]))
                 have k62 : w6.cell? ⟨gb, k * 6 + 2, none⟩ = some (.slice a1 m1 c1) := hgr6.cell k2 HUB.out
                 have f6 : ∀ j, w6.frozen? ⟨gb, j, none⟩ = false := fun j => (hgr6.frozen_far ⟨gb, j, none⟩ hgb HUB.out).trans (hfz j)
                 have HG6 := Lib.hid (grown_more HG5.out hgr6 (fun b e => .inl (Nat.le_trans hB2 (HOU.out.lt e).1)))
                 have HC6 := Lib.hid ((HC5.out.below bA.out).kept g6 (fun b e => by have := (HOU.out.lt e).1; omega))
                 have HL6 := Lib.hid (HL5.out.kept hgr6 (fun b e e2 => by have := (HOU.out.lt e).1; have := HB.out b e2; omega))
                 obtain ⟨u6A, u6c, hu6, _, _⟩ := o6.form (show (x.old ++ [(⟨#[122, 10]⟩ : ByteArray)]).length = m1 + 1 by simp [HOU.out.strs.len])
                 subst hu6)
              | fail)
            go_meet
            case rel => exact ⟨⟨_, _, HO6.out, by simp [Hnp.out, hnp], all_set (k := k) (t := { x with old := x.old ++ [⟨#[122, 10]⟩] }) HPQ.out ⟨HXS.out.q.1, by simp; omega, HXS.out.q.2.2.1, all_snoc HXS.out.2.2.2.1 (by decide), HXS.out.2.2.2.2⟩⟩, (HC6.out.set hgg).more (by omega), grown_set HG6.out hwb, HSL.out _ _ _ HL6.out, HB.out, hB2⟩
          · have q3 : (y == 2) = false := by simpa using e2
            by_cases e3 : y = 3
            · have q4 : (y == 3) = true := by simp [e3]
              clear e0 e1 e2 e3 hy1
              have hadd : IntKind.i64.wrap (x.fr + 30) = x.fr + 30 := by simp [IntKind.wrap, IntKind.bits, IntKind.signed]; omega
              have hadd2 : IntKind.i64.wrap (x.to_ + 30) = x.to_ + 30 := by simp [IntKind.wrap, IntKind.bits, IntKind.signed]; omega
              have o6 := HO5.out.setFr HX.out HR.out (x.fr + 30) ⟨by omega, by omega⟩
              have o7 := o6.setTo (set_eq (List.getElem?_eq_some_iff.1 HX.out).1) (set_eq (List.getElem?_eq_some_iff.1 HR.out).1) (x.to_ + 30) ⟨by omega, by omega⟩
              rw [List.set_set, List.set_set] at o7
              have HO7 := Lib.hid o7
              have f6 : ∀ j, (w5.setCell ⟨gb, k * 6, none⟩ (.int .i64 (x.fr + 30))).frozen? ⟨gb, j, none⟩ = false := o6.own.free
              have k61 : (w5.setCell ⟨gb, k * 6, none⟩ (.int .i64 (x.fr + 30))).cell? ⟨gb, k * 6 + 1, none⟩ = some (.int .i64 x.to_) := o6.own.cell (set_eq (List.getElem?_eq_some_iff.1 HR.out).1) (j := 1) rfl
              clear o6 o7
              have HQ := Lib.hid (all_set (k := k) HPQ.out (t := { x with fr := x.fr + 30, to_ := x.to_ + 30 }) ⟨by have := HXS.out.1; dsimp only; omega, HXS.out.q.2⟩)
              go_wp2
              go_meet
              case rel => exact ⟨⟨_, _, HO7.out, by simp [Hnp.out, hnp], HQ.out⟩, ((HC5.out.set hgg).set hgg).more (by omega), grown_set (grown_set HG5.out hwb) hwb, HSL.out _ _ _ (HSL.out _ _ _ HL5.out), HB.out, hB2⟩
            · have q4 : (y == 3) = false := by simpa using e3
              by_cases e4 : y = 4
              · have q5 : (y == 4) = true := by simp [e4]
                clear e0 e1 e2 e3 e4 hy1
                have h5B : B ≤ w5.heap.size := by omega
                have ol := OwnV.lit w5 B h5B [⟨#[108, 97, 115, 116]⟩] (by simp [maxLen]) (fun s hs => by simp at hs; rw [hs]; decide)
                have HO6 := Lib.hid (HO5.out.turnNew HX.out HR.out (World.grownBy_alloc w5 (.cells #[.string ⟨#[108, 97, 115, 116]⟩] 9) _) ol (.inr (fun b e => by simp [Value.ownBlock] at e; omega)))
                have HG6 := Lib.hid (grown_set (p := ⟨gb, k * 6 + 5, none⟩) (u := .slice (some ⟨w5.heap.size, 0, none⟩) 1 1) (grown_alloc HG5.out (.cells #[.string ⟨#[108, 97, 115, 116]⟩] 9)) hwb)
                have HC6 := Lib.hid ((HC5.out.below (below_alloc w5 (.cells #[.string ⟨#[108, 97, 115, 116]⟩] 9))).set (p := ⟨gb, k * 6 + 5, none⟩) (u := .slice (some ⟨w5.heap.size, 0, none⟩) 1 1) hgg)
                have HL6 := Lib.hid (HSL.out _ (k * 6 + 5) (.slice (some ⟨w5.heap.size, 0, none⟩) 1 1) (HL5.out.below (below_alloc w5 (.cells #[.string ⟨#[108, 97, 115, 116]⟩] 9))))
                have HQ := Lib.hid (all_set (k := k) HPQ.out (t := { x with new := [⟨#[108, 97, 115, 116]⟩] }) ⟨HXS.out.q.1, HXS.out.q.2.1, by simp, HXS.out.2.2.2.1, fun s hs => by simp at hs; rw [hs]; decide⟩)
                have kA : ∀ o, (w5.alloc o).cell? ⟨gb, k * 6 + 5, none⟩ = some (.slice a2 m2 c2) := fun o => cell_keep (below_alloc w5 o) k5
                have fA : ∀ o j, (w5.alloc o).frozen? ⟨gb, j, none⟩ = false := fun o j => ((below_alloc w5 o).frozen hgb).trans (hfz j)
                clear ol
                have HCO := Lib.hid (World.setCell_alloc_past (w := w5) (.cells #[.string ⟨#[108, 97, 115, 116]⟩] 9) gb (k * 6 + 5) (.slice (some ⟨w5.heap.size, 0, none⟩) 1 1) hgb).symm
                go_wp2
                go_meet
                case rel =>
                  rw [HCO.out]
                  exact ⟨⟨_, _, HO6.out, by simp [Hnp.out, hnp], HQ.out⟩, HC6.out.more (by omega), HG6.out, HL6.out, HB.out, hB2⟩
              · have q5 : (y == 4) = false := by simpa using e4
                clear e0 e1 e2 e3 e4 hy1
                go_wp2
                go_meet
                case rel => exact ⟨⟨_, _, HO5.out, by simp [Hnp.out, hnp], HPQ.out⟩, HC5.out.more (by omega), HG5.out, HL5.out, HB.out, hB2⟩
    · have q0 : decide (0 < np) = false := by simp; omega
      go_wp2
      go_meet
      case rel => exact ⟨⟨_, _, HO3.out, by simp [Hnp.out, hnp], fun x hx => (HPS.out x hx).q⟩, HC3.out.more (by omega), HG3.out, HOL.out, HB.out, hB2⟩
  case rest => as_aux_lemma =>
    obtain ⟨⟨p, rows', o4, hp4, hq4⟩, c4, g4, ol4, ha4, hf4⟩ := hcut
    have HQ4 := Lib.hid hq4
    have HO4 := Lib.hid o4
    clear hq4 o4
    go_wp2_with fail
    refine (one_any g _ 4 _ c4 (by omega) (by omega)).mono ?_
    rintro e w5 ⟨b, rfl, c5, g5⟩
    have hgB : g < B := by omega
    have HO5 := Lib.hid (HO4.out.keptg g5 hgB)
    have G5 := g4.trans g5
    have ol5 := ol4.kept g5 (fun b e e2 => by injection e with e; have := (ol4.lt e2).1; omega)
    have HF := Lib.hid (show Fine 8 l from fun s hs => ⟨(HLS.out s hs).2, (HLS.out s hs).1⟩)
    cases b with
    | false =>
      go_wp2
      go_ret2
      exact ⟨_, l, _, p, rows', rfl, ol5, by rw [Hnl.out]; omega, HF.out.more (by omega), HO5.out.more hf4, hp4, HQ4.out, c5.more (by omega), G5⟩
    | true =>
      go_wp2_with fail
      refine (other_any g _ 8 Al nl cl l _ c5 (by omega) ol5.strs (by omega) HF.out (by omega) (by omega)).mono ?_
      rintro e w6 ⟨v6, l6, rfl, s6⟩
      go_wp2
      go_ret2
      exact ⟨_, l6, _, p, rows', rfl, s6.own.more (Nat.le_trans G5.size (Nat.le_refl _)), Nat.le_trans s6.len (by omega), s6.fine, (HO5.out.keptg s6.grown hgB).more hf4, hp4, HQ4.out, s6.cur.more (by omega), G5.trans s6.grown⟩

end Go.Proofs.YtnimaadjmejmpaaGreatDoor

namespace Go.Proofs.YtnimaadjmejmpaaGreatDoor
open Go.RowKit M

set_option maxHeartbeats 1000000 in
theorem hunked_any (g M : Nat) (w : World) (h : Curs w g M) (hM : M ≤ 700000) :
    Calls Tryz.prog 92 #[.pointer (some ⟨g, 0, none⟩)] w fun e w' => ∃ A n c l A2 n2 c2 out vs B, e = .returned (.tuple #[.slice A n c, .slice A2 n2 c2]) ∧ OwnV w' w.heap.size (.slice A n c) l ∧ n ≤ c ∧ n ≤ 9 ∧ (∀ s ∈ l, s.size ≤ 8) ∧ (∀ s, l.getLast? = some s → 1 ≤ s.size) ∧
      w.heap.size ≤ B ∧ (∀ b, (Value.slice A n c).ownBlock = some b → b < B) ∧ OwnH w' B (.slice A2 n2 c2) out vs ∧ n2 ≤ 6 ∧ (∀ x ∈ out, smallA x) ∧ Curs w' g (M + 800) ∧ w.grownBy w' (some g) := by
  have hlt := h.lt
  go_enter Tryz.func92, Tryz.ntmps92
  go_wp2_with fail
  refine (anyText2_any g M _ h (by omega)).mono ?_
  rintro e w1 ⟨v, l, rfl, o1, hl, hsm, hla, c1, g1⟩
  obtain ⟨n, HN⟩ : ∃ n, Hid (l.length = n) := ⟨_, rfl⟩
  obtain ⟨A, cap, rfl, hn1, hn2⟩ := o1.form HN.out
  have hn9 : n ≤ 9 := by rw [← HN.out]; exact hl
  have HSM := Lib.hid hsm
  have HLA := Lib.hid hla
  have HLT := Lib.hid (show ∀ b, (Value.slice A n cap).ownBlock = some b → b < w1.heap.size from fun b e => (o1.lt e).2)
  clear hl hsm hla
  go_wp2_with fail
  refine (anyHunks_any g _ A n cap l _ c1 (by omega) o1.strs (fun x e => by
    cases A with
    | none => cases e
    | some ad =>
      injection e with e
      subst e
      have := (o1.lt (g := ad.block) rfl).1
      omega) (by omega) HLA.out).mono ?_
  rintro e w2 ⟨v2, out, vs, rfl, o2, hlen, hsa, c2, g2⟩
  obtain ⟨n2, HN2⟩ : ∃ n2, Hid (out.length = n2) := ⟨_, rfl⟩
  obtain ⟨A2, cap2, rfl, hn21, hn22⟩ := o2.form HN2.out
  have HSA := Lib.hid hsa
  clear hsa
  go_wp2
  go_ret2
  refine ⟨A, n, cap, l, A2, n2, cap2, out, vs, w1.heap.size, rfl, ?_, hn1, hn9, HSM.out, HLA.out, g1.size, HLT.out, o2, by rw [← HN2.out]; exact hlen, HSA.out, c2.more (by omega), g1.trans g2⟩
  exact o1.kept g2 (fun b e h => by injection e with e; have := (o1.lt h).1; omega)

/-- What the draws of lines and hunks answer. -/
def DrewLH (w w' : World) (A : Option Addr) (n c : Nat) (l : List ByteArray) (A2 : Option Addr) (n2 c2 : Nat) (hs : List Hk) : Prop :=
  Strs w' A n l ∧ n ≤ c ∧ n ≤ 9 ∧ (∀ s ∈ l, s.size ≤ 8) ∧ Hks w' A2 n2 hs ∧ n2 ≤ c2 ∧ n2 ≤ 6 ∧ (∀ x ∈ hs, smallA x) ∧ Below w.heap.size w w'

set_option maxHeartbeats 1000000 in
theorem DrawPatch_any (a : Option Addr) (n c : Nat) (w : World) (h : Bytes w a n) (hn : n ≤ 1048576) :
    Calls Tryz.prog 51 #[.slice a n c] w fun e w' => ∃ A n1 c1 l A2 n2 c2 hs, e = .returned (.tuple #[.slice A n1 c1, .slice A2 n2 c2]) ∧ DrewLH w w' A n1 c1 l A2 n2 c2 hs := by
  have c0 := Curs.new (c := c) h hn
  go_enter Tryz.func51, Tryz.ntmps51
  go_wp2_with fail
  refine (hunked_any _ 0 _ c0 (by omega)).mono ?_
  rintro e w1 ⟨A, n1, c1, l, A2, n2, c2, out, vs, B, rfl, o1, h1, h2, h3, h4, h5, h6, o2, h7, h8, c3, g1⟩
  obtain ⟨_, _, e2, hc2, _⟩ := o2.form o2.hks.len
  injection e2 with e2 e3 e4
  have H3 := Lib.hid h3
  have H8 := Lib.hid h8
  have HD := Lib.hid (show DrewLH w w1 A n1 c1 l A2 n2 c2 out from ⟨o1.strs, h1, h2, h3, o2.hks, by omega, h7, h8, below_new g1⟩)
  clear h3 h4 h6 h8 o1 o2 e2 e3 e4
  go_wp2
  go_ret2
  exact ⟨A, n1, c1, l, A2, n2, c2, out, rfl, HD.out⟩

set_option maxHeartbeats 1000000 in
theorem DrawNormalSteps_any (a : Option Addr) (n c : Nat) (w : World) (h : Bytes w a n) (hn : n ≤ 1048576) :
    Calls Tryz.prog 16 #[.slice a n c] w fun e w' => ∃ A n1 c1 l A2 n2 c2 hs, e = .returned (.tuple #[.slice A n1 c1, .slice A2 n2 c2]) ∧ DrewLH w w' A n1 c1 l A2 n2 c2 hs := by
  go_enter Tryz.func16, Tryz.ntmps16
  go_wp2_with fail
  refine (DrawPatch_any a n c _ h hn).mono ?_
  rintro e w1 ⟨A, n1, c1, l, A2, n2, c2, out, rfl, hd⟩
  have HD := Lib.hid hd
  clear hd
  go_wp2
  go_ret2
  exact ⟨A, n1, c1, l, A2, n2, c2, out, rfl, HD.out⟩

/-- What the draws of lines and steps answer. -/
def DrewLS (w w' : World) (A : Option Addr) (n c : Nat) (l : List ByteArray) (A2 : Option Addr) (n2 c2 : Nat) (p : List Sp) : Prop :=
  Strs w' A n l ∧ n ≤ c ∧ n ≤ 12 ∧ Fine 9 l ∧ Sps w' A2 n2 p ∧ n2 ≤ c2 ∧ n2 ≤ 6 ∧ (∀ x ∈ p, smallQ x) ∧ Below w.heap.size w w'

set_option maxHeartbeats 1000000 in
theorem DrawStepsHunks_any (a : Option Addr) (n c : Nat) (w : World) (h : Bytes w a n) (hn : n ≤ 1048576) :
    Calls Tryz.prog 63 #[.slice a n c] w fun e w' => ∃ A n1 c1 l A2 n2 c2 p, e = .returned (.tuple #[.slice A n1 c1, .slice A2 n2 c2]) ∧ DrewLS w w' A n1 c1 l A2 n2 c2 p := by
  have c0 := Curs.new (c := c) h hn
  go_enter Tryz.func63, Tryz.ntmps63
  go_wp2_with fail
  refine (steps_any _ 0 _ c0 (by omega)).mono ?_
  rintro e w1 ⟨vl, l, v, p, rows, rfl, o1, h1, h2, o2, h3, h4, c3, g1⟩
  obtain ⟨A, c1, rfl, hc1, _⟩ := o1.form rfl
  obtain ⟨A2, c2, rfl, hc2, _⟩ := o2.form rfl
  have HD := Lib.hid (show DrewLS w w1 A l.length c1 l A2 p.length c2 p from ⟨o1.strs, hc1, h1, h2, o2.sps, hc2, h3, h4, below_new g1⟩)
  clear h2 h4 o1 o2
  go_wp2
  go_ret2
  exact ⟨A, _, c1, l, A2, _, c2, p, rfl, HD.out⟩

set_option maxHeartbeats 1000000 in
theorem DrawApplySteps_any (a : Option Addr) (n c : Nat) (w : World) (h : Bytes w a n) (hn : n ≤ 1048576) :
    Calls Tryz.prog 26 #[.slice a n c] w fun e w' => ∃ A n1 c1 l A2 n2 c2 p, e = .returned (.tuple #[.slice A n1 c1, .slice A2 n2 c2]) ∧ DrewLS w w' A n1 c1 l A2 n2 c2 p := by
  go_enter Tryz.func26, Tryz.ntmps26
  go_wp2_with fail
  refine (DrawStepsHunks_any a n c _ h hn).mono ?_
  rintro e w1 ⟨A, n1, c1, l, A2, n2, c2, p, rfl, hd⟩
  have HD := Lib.hid hd
  clear hd
  go_wp2
  go_ret2
  exact ⟨A, n1, c1, l, A2, n2, c2, p, rfl, HD.out⟩

/-- What the draws of steps answer. -/
def DrewS (w w' : World) (A : Option Addr) (n c : Nat) (p : List Sp) : Prop := Sps w' A n p ∧ n ≤ c ∧ n ≤ 6 ∧ (∀ x ∈ p, smallQ x) ∧ Below w.heap.size w w'

set_option maxHeartbeats 1000000 in
theorem DrawGoodSteps_any (a : Option Addr) (n c : Nat) (w : World) (h : Bytes w a n) (hn : n ≤ 1048576) :
    Calls Tryz.prog 32 #[.slice a n c] w fun e w' => ∃ A n1 c1 p, e = .returned (.slice A n1 c1) ∧ DrewS w w' A n1 c1 p := by
  have c0 := Curs.new (c := c) h hn
  go_enter Tryz.func32, Tryz.ntmps32
  go_wp2_with fail
  refine (steps_any _ 0 _ c0 (by omega)).mono ?_
  rintro e w1 ⟨vl, l, v, p, rows, rfl, o1, h1, h2, o2, h3, h4, c3, g1⟩
  obtain ⟨A2, c2, rfl, hc2, _⟩ := o2.form rfl
  have HD := Lib.hid (show DrewS w w1 A2 p.length c2 p from ⟨o2.sps, hc2, h3, h4, below_new g1⟩)
  clear h2 h4 o1 o2
  go_wp2
  go_ret
  exact ⟨A2, _, c2, p, rfl, HD.out⟩

set_option maxHeartbeats 1000000 in
theorem DrawStepsText_any (a : Option Addr) (n c : Nat) (w : World) (h : Bytes w a n) (hn : n ≤ 1048576) :
    Calls Tryz.prog 7 #[.slice a n c] w fun e w' => ∃ A n1 c1 p, e = .returned (.slice A n1 c1) ∧ DrewS w w' A n1 c1 p := by
  go_enter Tryz.func7, Tryz.ntmps7
  go_wp2_with fail
  refine (DrawGoodSteps_any a n c _ h hn).mono ?_
  rintro e w1 ⟨A, n1, c1, p, rfl, hd⟩
  have HD := Lib.hid hd
  clear hd
  go_wp2
  go_ret
  exact ⟨A, n1, c1, p, rfl, HD.out⟩

end Go.Proofs.YtnimaadjmejmpaaGreatDoor

namespace Go.Proofs.YtnimaadjmejmpaaGreatDoor
open Go.RowKit M

set_option maxHeartbeats 2000000 in
set_option maxRecDepth 100000 in
theorem sameSteps_same (a b : Option Addr) (n c d : Nat) (l : List Sp) (w : World) (hl : Sps w a n l) (hr : Sps w b n l) :
    Calls Tryz.prog 13 #[.slice a n c, .slice b n d] w fun e w' => e = .returned (.bool true) ∧ Below w.heap.size w w' := by
  have hlim := hl.lim
  unfold maxLen at hlim
  have hq : ((n : Int) != (n : Int)) = false := by simp
  go_enter Tryz.func13, Tryz.ntmps13
  go_wp2
  go_loopw [15] (fun i w' => ∃ k : Nat, i = .int .i64 k ∧ k ≤ n ∧ Below w.heap.size w w') (fun i _ => n - (intOf i).toNat)
  case atStart => exact ⟨0, rfl, by omega, Below.refl _ _⟩
  case round =>
    obtain ⟨k, rfl, hk, hb⟩ := hrel
    by_cases hlt : k < n
    · obtain ⟨b1, off1, A1, m1, c1, B1, n1, d1, x, rfl, hx, f0, f1, f2, f3, f4, f5, hs1, _, ht1, _, _⟩ := (hl.below hb).at_ hlt
      obtain ⟨b2, off2, A2, m2, c2, B2, n2, d2, y, rfl, hy, e0, e1, e2, e3, e4, e5, hs2, _, ht2, _, _⟩ := (hr.below hb).at_ hlt
      have hxy : y = x := by rw [hx] at hy; injection hy with hy; exact hy.symm
      subst hxy
      clear hx hy
      have hi0 : (0 : Int) ≤ (k : Int) := by omega
      have hi1 : (k : Int) < (n : Int) := by omega
      have hp0 : ∀ o, (wr.alloc o).cell? ⟨b2, off2 + k * 6, none⟩ = some (.int .i64 y.fr) := fun o => cell_keep (below_alloc wr o) e0
      have hp1 : ∀ o, (wr.alloc o).cell? ⟨b2, off2 + k * 6 + 1, none⟩ = some (.int .i64 y.to_) := fun o => cell_keep (below_alloc wr o) e1
      have hp2 : ∀ o, (wr.alloc o).cell? ⟨b2, off2 + k * 6 + 2, none⟩ = some (.slice A2 m2 c2) := fun o => cell_keep (below_alloc wr o) e2
      have hp3 : ∀ o, (wr.alloc o).cell? ⟨b2, off2 + k * 6 + 3, none⟩ = some (.int .i64 y.at_) := fun o => cell_keep (below_alloc wr o) e3
      have hp4 : ∀ o, (wr.alloc o).cell? ⟨b2, off2 + k * 6 + 4, none⟩ = some (.int .i64 y.en) := fun o => cell_keep (below_alloc wr o) e4
      have hp5 : ∀ o, (wr.alloc o).cell? ⟨b2, off2 + k * 6 + 5, none⟩ = some (.slice B2 n2 d2) := fun o => cell_keep (below_alloc wr o) e5
      have HQ := Lib.hid (show eqT y.old y.old = true by simp [eqT])
      have HQ2 := Lib.hid (show eqT y.new y.new = true by simp [eqT])
      go_wp2_with fail
      refine (sameTexts_any A1 A2 m1 m2 c1 c2 y.old y.old _ ((hs1.below (below_alloc _ _)).below (below_alloc _ _)) ((hs2.below (below_alloc _ _)).below (below_alloc _ _))).mono ?_
      rintro e w5 ⟨rfl, b5⟩
      rw [HQ.out]
      have B5 := (((Below.refl wr.heap.size wr).next (below_alloc _ _)).next (below_alloc _ _)).next b5.below
      obtain ⟨j5, rfl⟩ := b5
      go_wp2_with fail
      refine (sameTexts_any B1 B2 n1 n2 d1 d2 y.new y.new _ (ht1.below B5) (ht2.below B5)).mono ?_
      rintro e w6 ⟨rfl, b6⟩
      rw [HQ2.out]
      have B6 := hb.next (B5.next b6.below)
      go_wp2
      go_roundw
      case rel => exact ⟨k + 1, by go_num, by omega, B6⟩
      case measure => simp [intOf]; omega
    · go_wp2
      go_ret
      exact ⟨rfl, hb⟩

set_option maxHeartbeats 2000000 in
set_option maxRecDepth 100000 in
theorem sameHunks_same (a b : Option Addr) (n c d : Nat) (l : List Hk) (w : World) (hl : Hks w a n l) (hr : Hks w b n l) :
    Calls Tryz.prog 24 #[.slice a n c, .slice b n d] w fun e w' => e = .returned (.bool true) ∧ Below w.heap.size w w' := by
  have hlim := hl.lim
  unfold maxLen at hlim
  have hq : ((n : Int) != (n : Int)) = false := by simp
  go_enter Tryz.func24, Tryz.ntmps24
  go_wp2
  go_loopw [14] (fun i w' => ∃ k : Nat, i = .int .i64 k ∧ k ≤ n ∧ Below w.heap.size w w') (fun i _ => n - (intOf i).toNat)
  case atStart => exact ⟨0, rfl, by omega, Below.refl _ _⟩
  case round =>
    obtain ⟨k, rfl, hk, hb⟩ := hrel
    by_cases hlt : k < n
    · obtain ⟨b1, off1, A1, m1, c1, x, rfl, hx, d0, d1, d2, hs1, _, _, _⟩ := (hl.below hb).at_ hlt
      obtain ⟨b2, off2, A2, m2, c2, y, rfl, hy, e0, e1, e2, hs2, _, _, _⟩ := (hr.below hb).at_ hlt
      have hxy : y = x := by rw [hx] at hy; injection hy with hy; exact hy.symm
      subst hxy
      clear hx hy
      have hi0 : (0 : Int) ≤ (k : Int) := by omega
      have hi1 : (k : Int) < (n : Int) := by omega
      have hp0 : ∀ o, (wr.alloc o).cell? ⟨b2, off2 + k * 3, none⟩ = some (.int .i64 y.at_) := fun o => cell_keep (below_alloc wr o) e0
      have hp1 : ∀ o, (wr.alloc o).cell? ⟨b2, off2 + k * 3 + 1, none⟩ = some (.int .i64 y.gone) := fun o => cell_keep (below_alloc wr o) e1
      have hp2 : ∀ o, (wr.alloc o).cell? ⟨b2, off2 + k * 3 + 2, none⟩ = some (.slice A2 m2 c2) := fun o => cell_keep (below_alloc wr o) e2
      have hbn := hb.next (below_alloc wr (.cells #[.int .i64 y.at_, .int .i64 y.gone, .slice A1 m1 c1] 97))
      have hq2 : eqT y.new y.new = true := eqT_refl _
      go_wp2
      go_quiet (first | (go_at_call 25; refine Calls.quiet_of (sameTexts_any A1 A2 m1 m2 c1 c2 y.new y.new _ ?_ ?_); exact hs1.below (below_drewN (below_alloc _ _) _); exact hs2.below (below_drewN (below_alloc _ _) _)))
      go_wp2
      go_roundw
      case rel => exact ⟨k + 1, by go_num, by omega, below_drewN hbn _⟩
      case measure => simp [intOf]; omega
    · go_wp2
      go_ret
      exact ⟨rfl, hb⟩

end Go.Proofs.YtnimaadjmejmpaaGreatDoor
