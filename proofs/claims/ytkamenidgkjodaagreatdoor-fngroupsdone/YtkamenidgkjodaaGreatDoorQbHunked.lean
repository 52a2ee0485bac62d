/-
  Lines and hunks drawn together.
  Groups that are drawn, widths, and texts of groups.
-/
import Derived.Test.YtkamenidgkjodaaGreatDoorQbHDrawAB
import Derived.Test.YtkamenidgkjodaaGreatDoorQbGMem
import Derived.Test.YtkamenidgkjodaaGreatDoorQbGSpecs
import Derived.Test.YtkamenidgkjodaaGreatDoorQbUTexts
import Derived.Test.YtkamenidgkjodaaGreatDoorQbUTrips
import Derived.Test.YtkamenidgkjodaaGreatDoorQbDraw2
import Derived.Test.YtkamenidgkjodaaGreatDoorQbNDraw
import Derived.Test.YtkamenidgkjodaaGreatDoorQbDraw
import Derived.Test.YtkamenidgkjodaaGreatDoorQbMemT
import Derived.BigQuiet
import Derived.Deep.DeepCutAuto
set_option linter.unusedSimpArgs false
set_option linter.unusedVariables false
namespace Go.Proofs.YtkamenidgkjodaaGreatDoor
open Go.RowKit M

set_option maxHeartbeats 1000000 in
theorem hunked_any (g M : Nat) (w : World) (h : Curs w g M) (hM : M ≤ 700000) :
    Calls Tryz.prog 96 #[.pointer (some ⟨g, 0, none⟩)] w fun e w' => ∃ A n c l A2 n2 c2 out vs B, e = .returned (.tuple #[.slice A n c, .slice A2 n2 c2]) ∧ OwnV w' w.heap.size (.slice A n c) l ∧ n ≤ c ∧ n ≤ 9 ∧ (∀ s ∈ l, s.size ≤ 8) ∧ (∀ s, l.getLast? = some s → 1 ≤ s.size) ∧
      w.heap.size ≤ B ∧ (∀ b, (Value.slice A n c).ownBlock = some b → b < B) ∧ OwnH w' B (.slice A2 n2 c2) out vs ∧ n2 ≤ 6 ∧ (∀ x ∈ out, smallA x) ∧ Curs w' g (M + 800) ∧ w.grownBy w' (some g) := by
  have hlt := h.lt
  go_enter Tryz.func96, Tryz.ntmps96
  go_wp2_with fail
  refine (anyText2_any g M _ h (by omega)).mono ?_
  rintro e w1 ⟨v, l, rfl, o1, hl, hsm, hla, c1, g1⟩
  obtain ⟨n, HN⟩ : ∃ n, Hid (l.length = n) := ⟨_, rfl⟩
  obtain ⟨A, cap, rfl, hn1, hn2⟩ := o1.form HN.out
  have hn9 : n ≤ 9 := by rw [← HN.out]; exact hl
  have HSM := Lib.hid hsm
  have HLA := Lib.hid hla
  have HLT := Lib.hid (show ∀ b, (Value.slice A n cap).ownBlock = some b → b < w1.heap.size from fun b e => (o1.lt e).2)
  clear hl hsm hla
  go_wp2_with fail
  refine (anyHunks_any g _ A n cap l _ c1 (by omega) o1.strs (fun x e => by
    cases A with
    | none => cases e
    | some ad =>
      injection e with e
      subst e
      have := (o1.lt (g := ad.block) rfl).1
      omega) (by omega) HLA.out).mono ?_
  rintro e w2 ⟨v2, out, vs, rfl, o2, hlen, hsa, c2, g2⟩
  obtain ⟨n2, HN2⟩ : ∃ n2, Hid (out.length = n2) := ⟨_, rfl⟩
  obtain ⟨A2, cap2, rfl, hn21, hn22⟩ := o2.form HN2.out
  have HSA := Lib.hid hsa
  clear hsa
  go_wp2
  go_ret2
  refine ⟨A, n, cap, l, A2, n2, cap2, out, vs, w1.heap.size, rfl, ?_, hn1, hn9, HSM.out, HLA.out, g1.size, HLT.out, o2, by rw [← HN2.out]; exact hlen, HSA.out, c2.more (by omega), g1.trans g2⟩
  exact o1.kept g2 (fun b e h => by injection e with e; have := (o1.lt h).1; omega)

def DrewLH (w w' : World) (A : Option Addr) (n c : Nat) (l : List ByteArray) (A2 : Option Addr) (n2 c2 : Nat) (hs : List Hk) : Prop :=
  Strs w' A n l ∧ n ≤ c ∧ n ≤ 9 ∧ (∀ s ∈ l, s.size ≤ 8) ∧ Hks w' A2 n2 hs ∧ n2 ≤ c2 ∧ n2 ≤ 6 ∧ (∀ x ∈ hs, smallA x) ∧ Below w.heap.size w w'

end Go.Proofs.YtkamenidgkjodaaGreatDoor

namespace Go.Proofs.YtkamenidgkjodaaGreatDoor
open Go.RowKit M

theorem OwnGp.keptg {w w' : World} {base g : Nat} {v : Value} {p : List Gp} {rows : List (List D)} (h : OwnGp w base v p rows) (hg : w.grownBy w' (some g)) (hb : g < base) : OwnGp w' base v p rows :=
  h.wrote (Wrote.of_grown (S := fun i => i = g) hg (fun k e => (Option.some.inj e).symm)) (fun i hi e => by have := (h.lt hi).1; omega)
theorem wrap_ok (z : Int) : i64ok (IntKind.i64.wrap z) := by
  rw [IntKind.wrap_i64]
  unfold i64ok
  omega

theorem cell_past3 {w w' : World} {row : Option Nat} {b o : Nat} {x : Value} (hg : w.grownBy w' row) (h : w.cell? ⟨b, o, none⟩ = some x) (hne : row ≠ some b) : w'.cell? ⟨b, o, none⟩ = some x := by
  have hb : b < w.heap.size := by
    by_cases hb : b < w.heap.size
    · exact hb
    · have : w.heap[b]? = none := Array.getElem?_eq_none (by omega)
      simp [World.cell?, this] at h
  have e := hg.block b hb (fun e => hne e.symm)
  simpa [World.cell?, e] using h

theorem cell_far {w : World} {p : Addr} {u x : Value} {b o : Nat} (h : w.cell? ⟨b, o, none⟩ = some x) (hne : b ≠ p.block) : (w.setCell p u).cell? ⟨b, o, none⟩ = some x := by
  have e : (w.setCell p u).heap[b]? = w.heap[b]? := Below.heap_setCell _ _ _ _ hne
  unfold World.cell? at h ⊢
  rw [e]
  exact h

structure DrwG (w wx : World) (g B M : Nat) (v vl : Value) (l : List ByteArray) : Prop where
  ex : ∃ p rows, OwnGp wx B v p rows ∧ p.length ≤ 6 ∧ ∀ x ∈ p, x.rows.length ≤ 1048576
  cur : Curs wx g M
  grown : w.grownBy wx (some g)
  own : OwnV wx w.heap.size vl l
  ahead : ∀ b, vl.ownBlock = some b → b < B
  far : w.heap.size ≤ B

set_option maxHeartbeats 2000000 in
set_option maxRecDepth 100000 in
theorem groups_any (g M : Nat) (w : World) (h : Curs w g M) (hM : M ≤ 800000) :
    Calls Tryz.prog 42 #[.pointer (some ⟨g, 0, none⟩)] w fun e w' => ∃ vl l v p rows, e = .returned (.tuple #[vl, v]) ∧ OwnV w' w.heap.size vl l ∧ l.length ≤ 12 ∧ Fine 9 l ∧ OwnGp w' w.heap.size v p rows ∧ p.length ≤ 6 ∧ (∀ x ∈ p, x.rows.length ≤ 1048576) ∧ Curs w' g (M + 700) ∧ w.grownBy w' (some g) := by
  have hlt := h.lt
  go_enter Tryz.func42, Tryz.ntmps42
  go_wp2_with fail
  refine (text2_any g M _ h (by omega)).mono ?_
  rintro e w1 ⟨vl, l, rfl, ol1, hll, hls, c1, g1⟩
  obtain ⟨nl, Hnl⟩ : ∃ nl, Hid (l.length = nl) := ⟨_, rfl⟩
  obtain ⟨Al, cl, hve, hcl, _⟩ := ol1.form Hnl.out
  subst hve
  have hnl : nl ≤ 9 := by rw [← Hnl.out]; exact hll
  have HLS := Lib.hid hls
  have HAG : ∀ x, Al = some x → x.block ≠ g := fun x e => by
    cases Al with
    | none => cases e
    | some ad =>
      injection e with e
      subst e
      have := (ol1.lt (g := ad.block) rfl).1
      omega
  clear hls hll
  have h1lt := c1.lt
  go_wp2_with fail
  refine (hunks_any g _ Al nl cl l _ c1 (by omega) ol1.strs HAG (by omega) (fun s hs => (HLS.out s (List.mem_of_getLast? hs)).2)).mono ?_
  rintro e w2 ⟨vh, hs, vsh, rfl, oh2, hhl, hsm, c2, g2⟩
  obtain ⟨nh, Hnh⟩ : ∃ nh, Hid (hs.length = nh) := ⟨_, rfl⟩
  obtain ⟨Ah, ch, hve, hch, _⟩ := oh2.form Hnh.out
  subst hve
  have ol2 := ol1.kept g2 (fun b e e2 => by have := (ol1.lt e2).1; injection e with e; omega)
  have HSM := Lib.hid (show ∀ x ∈ hs, x.new.length ≤ 1048576 from fun x hx => by have := (hsm x hx).2.2.2.2.1; omega)
  have HHL := Lib.hid hhl
  clear hsm hhl
  have G2 := g1.trans g2
  have HOH := Lib.hid oh2
  have HOL2 := Lib.hid ol2
  have h2lt := c2.lt
  go_wp2_with fail
  refine (amongN_any g _ w2.heap.size 4 [0, 1, 2, 3] _ (c2.below (below_alloc _ _)) (by omega) (heap_alloc_new w2 _) (by omega) rfl (by omega) (by omega)).mono ?_
  rintro e w3 ⟨W, hW, rfl, c3, g3⟩
  have hWr : 0 ≤ W ∧ W ≤ 3 := by
    simp only [List.mem_cons, List.not_mem_nil, or_false] at hW
    omega
  obtain ⟨hW0, hW1⟩ := hWr
  have oh3 := (HOH.out.below (below_alloc w2 _)).keptg g3 h1lt
  have ol3 := (HOL2.out.below (below_alloc w2 _)).kept g3 (fun b e e2 => by have := (HOL2.out.lt e2).1; injection e with e; omega)
  have G3 := Lib.hid ((grown_alloc G2 _).trans g3)
  have HC3 := Lib.hid c3
  clear hW c3 g3 c2 ol2 oh2 G2 c1 g1 g2 ol1
  go_wp2_with fail
  refine (specGroupsOf_any Al nl cl l Ah nh ch hs W _ ol3.strs hcl oh3.hks hch HSM.out (by omega)).mono ?_
  rintro e w4 ⟨v, rows, rfl, o4, b4⟩
  have hps := groupsOf_pos l hs W
  have hrs := groupsOf_rows l hs W
  obtain ⟨P, ok, HP⟩ : ∃ P ok, Hid (groupsOf l hs W = (P, ok)) := ⟨_, _, rfl⟩
  rw [HP.out] at o4 hps hrs ⊢
  dsimp only at o4 hps hrs ⊢
  obtain ⟨hpl, hpr⟩ := hps
  obtain ⟨np, Hnp⟩ : ∃ np, Hid (P.length = np) := ⟨_, rfl⟩
  obtain ⟨Ap, cp, hve, hcp, _⟩ := o4.form Hnp.out
  subst hve
  have hnp : np ≤ 6 := by have := HHL.out; have := Hnp.out; omega
  have HPS := Lib.hid hpr
  have HRS := Lib.hid hrs
  have HO3 := Lib.hid o4
  have HOL := Lib.hid (ol3.below b4)
  have HG3 := Lib.hid (grown_below G3.out b4)
  have HC4 := Lib.hid (HC3.out.below b4)
  have HB := Lib.hid (show ∀ b, (Value.slice Al nl cl).ownBlock = some b → b < w3.heap.size from fun b e => (ol3.lt e).2)
  have hB2 := G3.out.size
  obtain ⟨B, hBe⟩ : ∃ B, w3.heap.size = B := ⟨_, rfl⟩
  rw [hBe] at HO3 HB hB2
  clear hpr hrs hpl HP HSM HHL o4 b4 oh3 ol3 hBe G3 HC3 HOH HOL2
  go_upto_if 24 with fail
  go_cut [] (fun wx => DrwG w wx g B (M + 640) (.slice Ap np cp) (.slice Al nl cl) l)
  case first => as_aux_lemma =>
    by_cases h0 : 0 < np
    · have q0 : decide (0 < np) = true := by simp; omega
      go_wp2_with fail
      refine (pick_any g _ np _ HC4.out (by omega) (by omega)).mono ?_
      rintro e w5 ⟨k, rfl, hk0, hk1, c5, g5⟩
      obtain ⟨k, rfl⟩ := Int.eq_ofNat_of_zero_le hk0
      have hkn : k < np := by omega
      clear hk1 hk0 q0
      have hgB : g < B := by omega
      have o5 := HO3.out.keptg g5 hgB
      obtain ⟨gb, x, a1, m1, c1, rfl, hb0, hgb, hx, hr, k0, k1, k2, ou, hm1, hok, hfz⟩ := o5.at_ hkn
      have HX := Lib.hid hx
      have HR5 := Lib.hid hr
      have hm0 : 1 ≤ m1 := by rw [← ou.len_]; exact HPS.out x (List.mem_of_getElem? hx)
      have hm2 : m1 ≤ 1048576 := by rw [← ou.len_]; exact HRS.out x (List.mem_of_getElem? hx)
      have HO5 := Lib.hid o5
      have HG5 := Lib.hid (HG3.out.trans g5)
      have HC5 := Lib.hid c5
      have hlf : ∀ b, some g = some b → (Value.slice Al nl cl).ownBlock ≠ some b := fun b e e2 => by injection e with e; have := (HOL.out.lt e2).1; omega
      have HL5 := Lib.hid (HOL.out.kept g5 hlf)
      clear hx hr k0 k1 ou hok o5 c5 g5 hlf
      go_wp2_with fail
      refine (pick_any g _ m1 _ HC5.out (by omega) (by omega)).mono ?_
      rintro e w6 ⟨i, rfl, hi0, hi1, c6, g6⟩
      obtain ⟨i, rfl⟩ := Int.eq_ofNat_of_zero_le hi0
      have him : i < m1 := by omega
      clear hi1 hi0
      have HO6 := Lib.hid (HO5.out.keptg g6 hgB)
      have HG6 := Lib.hid (HG5.out.trans g6)
      have HC6 := Lib.hid c6
      have hlf : ∀ b, some g = some b → (Value.slice Al nl cl).ownBlock ≠ some b := fun b e e2 => by injection e with e; have := (HL5.out.lt e2).1; omega
      have HL6 := Lib.hid (HL5.out.kept g6 hlf)
      clear c6 g6 hlf k2 hfz
      go_wp2_with fail
      refine (pick_any g _ 15 _ HC6.out (by omega) (by omega)).mono ?_
      rintro e w7 ⟨y, rfl, hy0, hy1, c7, g7⟩
      have o7 := HO6.out.keptg g7 hgB
      have HG7 := Lib.hid (HG6.out.trans g7)
      have HC7 := Lib.hid c7
      have hlf : ∀ b, some g = some b → (Value.slice Al nl cl).ownBlock ≠ some b := fun b e e2 => by injection e with e; have := (HL6.out.lt e2).1; omega
      have HL7 := Lib.hid (HL6.out.kept g7 hlf)
      obtain ⟨gb', x', a1', m1', c1', e', _, hgb7, hx7, hr7, k0, k1, k2, ou, _, hok, hfz⟩ := o7.at_ hkn
      injection e' with e'
      injection e' with e'
      subst e'
      obtain rfl : x' = x := by have := HX.out; rw [hx7] at this; injection this
      have hee : Value.slice a1' m1' c1' = Value.slice a1 m1 c1 := by
        have h9 := HR5.out
        rw [hr7] at h9
        injection h9 with h9
        unfold gpRow rowsD at h9
        injection h9 with _ h9
        injection h9 with _ h9
        injection h9 with h9 _
        injection h9
      injection hee with he1 he2 he3
      subst he1 he2 he3
      have HR := Lib.hid hr7
      have HO7 := Lib.hid o7
      have HOU := Lib.hid ou
      have HPQ := HRS
      have hgg : g < gb := by omega
      have hwb : w.heap.size ≤ gb := by omega
      have HSL := Lib.hid (show ∀ (wy : World) (z j : Nat) (u : Value), B ≤ z → OwnV wy w.heap.size (.slice Al nl cl) l → OwnV (wy.setCell ⟨z, j, none⟩ u) w.heap.size (.slice Al nl cl) l from fun wy z j u hz ho => ho.wrote (Wrote.set (fun i => i = z) wy _ _ rfl) (fun b e e2 => by have := HB.out b e; omega))
      clear hx7 hr7 ou o7 hok c7 g7 hlf
      have hxok := (OwnGp.rowsAt HO7.out HX.out HR.out).ok
      obtain ⟨gr, r, ha1, hbr, hgr, hri, r0, r1, hrok, hfr⟩ := HOU.out.at_ him
      subst ha1
      have HRI := Lib.hid hri
      have hgrr : g < gr := by omega
      have hwr : w.heap.size ≤ gr := by omega
      have HAP := Lib.hid (show gr ≠ gb from fun e => HO7.out.own.self_apart HR.out (j := 2) (d := rowsD (.slice (some ⟨gr, 0, none⟩) m1' c1') x'.rows) rfl (by rw [rowsD_blocks]; simp [Value.ownBlock, ← e]))
      clear hri hrok hxok
      by_cases e0 : y = 0
      · have q1 : (y == 0) = true := by simp [e0]
        clear e0 hy1
        obtain ⟨z, hz⟩ : ∃ z, IntKind.i64.wrap (x'.at_ + 1) = z := ⟨_, rfl⟩
        have hzo : i64ok z := by rw [← hz]; exact wrap_ok _
        have HO8 := Lib.hid (HO7.out.setAt HX.out HR.out z hzo)
        have HQ := Lib.hid (all_set (k := k) HPQ.out (t := { x' with at_ := z }) (by exact HRS.out x' (List.mem_of_getElem? HX.out)))
        go_wp2
        go_meet
        case rel => exact ⟨⟨_, _, HO8.out, by simp [Hnp.out, hnp], HQ.out⟩, (HC7.out.set hgg).more (by omega), grown_set HG7.out hwb, HSL.out _ _ _ _ hb0 HL7.out, HB.out, hB2⟩
      · have q1 : (y == 0) = false := by simpa using e0
        by_cases e1 : y = 1
        · have q2 : (y == 1) = true := by simp [e1]
          clear e0 e1 hy1
          obtain ⟨z, hz⟩ : ∃ z, IntKind.i64.wrap (x'.to_ + 1) = z := ⟨_, rfl⟩
          have hzo : i64ok z := by rw [← hz]; exact wrap_ok _
          have HO8 := Lib.hid (HO7.out.setTo HX.out HR.out z hzo)
          have HQ := Lib.hid (all_set (k := k) HPQ.out (t := { x' with to_ := z }) (by exact HRS.out x' (List.mem_of_getElem? HX.out)))
          go_wp2
          go_meet
          case rel => exact ⟨⟨_, _, HO8.out, by simp [Hnp.out, hnp], HQ.out⟩, (HC7.out.set hgg).more (by omega), grown_set HG7.out hwb, HSL.out _ _ _ _ hb0 HL7.out, HB.out, hB2⟩
        · have q2 : (y == 1) = false := by simpa using e1
          by_cases e2 : y = 2
          · have q3 : (y == 2) = true := by simp [e2]
            clear e0 e1 e2 hy1
            have HNE := Lib.hid (show some gr ≠ some g from fun e => by injection e with e; omega)
            have HGB := Lib.hid (show gb ≠ gr from fun e => HAP.out e.symm)
            have HNB := Lib.hid (show some g ≠ some gb from fun e => by injection e with e; omega)
            have hi0 : (0 : Int) ≤ (i : Int) := by omega
            have hi1 : (i : Int) < (m1' : Int) := by omega
            have hk0 : (0 : Int) ≤ (k : Int) := by omega
            have hk1 : (k : Int) < (np : Int) := by omega
            go_wp2
            go_region_held3 (fun w' => w'.cell? ⟨gb, k * 3 + 2, none⟩ = some (.slice (some ⟨gr, 0, none⟩) m1' c1')) (first | exact k2 | exact cell_past3 g8 k2 HNB.out | exact cell_far (cell_past3 g8 k2 HNB.out) HGB.out | go_keep)
              (first | (go_at_call 43; refine (pick_any g _ 5 _ (HC7.out.below (Below.refl _ _).drew) (by omega) (by omega)).mono ?_; rintro e w8 ⟨q, rfl, hq0, hq1, c8, g8⟩; have f8 : ∀ j, w8.frozen? ⟨gr, j, none⟩ = false := fun j => (g8.frozen_far ⟨gr, j, none⟩ hgr HNE.out).trans (hfr j); have r80 := cell_past3 g8 r0 (fun e => HNE.out e.symm)) | fail)
            have o8 := (HO7.out.below (Below.refl _ _).drew).keptg g8 hgB
            have HO9 := Lib.hid (o8.renewRows HX.out HR.out (w' := w8.setCell ⟨gr, i * 2, none⟩ (.int .i64 q)) (Wrote.set _ _ _ _ rfl) ((o8.rowsAt HX.out HR.out).setKind HRI.out q ⟨by omega, by omega⟩))
            have HQ := Lib.hid (all_set (k := k) HPQ.out (t := { x' with rows := x'.rows.set i ⟨q, r.line⟩ }) (by dsimp only; rw [List.length_set]; exact HRS.out x' (List.mem_of_getElem? HX.out)))
            have HC8 := Lib.hid (c8.set (p := ⟨gr, i * 2, none⟩) (u := .int .i64 q) hgrr)
            have HG8 := Lib.hid (grown_set (p := ⟨gr, i * 2, none⟩) (u := .int .i64 q) ((grown_below HG7.out (Below.refl _ _).drew).trans g8) hwr)
            have HL8 := Lib.hid (HSL.out _ gr (i * 2) (.int .i64 q) hbr ((HL7.out.below (Below.refl _ _).drew).kept g8 (fun b e e2 => by injection e with e; have := (HL7.out.lt e2).1; omega)))
            clear o8 c8 g8 f8 r80
            go_wp2
            go_meet
            case rel => exact ⟨⟨_, _, HO9.out, by simp [Hnp.out, hnp], HQ.out⟩, HC8.out.more (by omega), HG8.out, HL8.out, HB.out, hB2⟩
          · have q3 : (y == 2) = false := by simpa using e2
            by_cases e3 : y = 3
            · have q4 : (y == 3) = true := by simp [e3]
              clear e0 e1 e2 e3 hy1
              have HNE := Lib.hid (show some gr ≠ some g from fun e => by injection e with e; omega)
              have HGB := Lib.hid (show gb ≠ gr from fun e => HAP.out e.symm)
              have HNB := Lib.hid (show some g ≠ some gb from fun e => by injection e with e; omega)
              have hi0 : (0 : Int) ≤ (i : Int) := by omega
              have hi1 : (i : Int) < (m1' : Int) := by omega
              have hk0 : (0 : Int) ≤ (k : Int) := by omega
              have hk1 : (k : Int) < (np : Int) := by omega
              have HST := Lib.hid (strs_lit w7 [⟨#[]⟩, ⟨#[122, 10]⟩, ⟨#[122]⟩] (by simp [maxLen]) (fun s hs => by simp at hs; rcases hs with rfl | rfl | rfl <;> (simp [maxLen] <;> decide)))
              have hg7 : g < w7.heap.size := by omega
              go_wp2
              go_region_held3 (fun w' => w'.cell? ⟨gb, k * 3 + 2, none⟩ = some (.slice (some ⟨gr, 0, none⟩) m1' c1')) (first | exact k2 | exact cell_keep (below_alloc _ _) k2 | exact cell_past3 g8 (cell_keep (below_alloc _ _) k2) HNB.out | exact cell_far (cell_past3 g8 (cell_keep (below_alloc _ _) k2) HNB.out) HGB.out | go_keep)
                (first | (go_at_call 45; refine (of_any g _ _ 3 3 [⟨#[]⟩, ⟨#[122, 10]⟩, ⟨#[122]⟩] _ ((HC7.out.below (below_alloc _ _)).below (Below.refl _ _).drew) (by omega) (HST.out.below (Below.refl _ _).drew) (by omega) (by omega) (fun x e => by injection e with e; subst e; simp; omega)).mono ?_; rintro e w8 ⟨q, hq0, rfl, c8, g8⟩; have f8 : ∀ j, w8.frozen? ⟨gr, j, none⟩ = false := fun j => ((g8.frozen_far ⟨gr, j, none⟩ (Nat.lt_of_lt_of_le hgr (below_alloc w7 _).size) HNE.out).trans ((below_alloc w7 _).frozen hgr)).trans (hfr j); have r80 := cell_past3 g8 (cell_keep (below_alloc _ _) r1) (fun e => HNE.out e.symm)) | fail)
              have hqs : q.size ≤ maxLen := by
                simp only [List.mem_cons, List.not_mem_nil, or_false] at hq0
                rcases hq0 with rfl | rfl | rfl <;> decide
              have bA := (below_alloc w7 (.cells (List.map Value.string [⟨#[]⟩, ⟨#[122, 10]⟩, ⟨#[122]⟩]).toArray 9))
              have bA2 := ((Below.refl _ _).next bA).next (Below.refl _ _).drew
              have o8 := (HO7.out.below bA2).keptg g8 hgB
              have HO9 := Lib.hid (o8.renewRows HX.out HR.out (w' := w8.setCell ⟨gr, i * 2 + 1, none⟩ (.string q)) (Wrote.set _ _ _ _ rfl) ((o8.rowsAt HX.out HR.out).setLine HRI.out q hqs))
              have HQ := Lib.hid (all_set (k := k) HPQ.out (t := { x' with rows := x'.rows.set i ⟨r.kind, q⟩ }) (by dsimp only; rw [List.length_set]; exact HRS.out x' (List.mem_of_getElem? HX.out)))
              have HC8 := Lib.hid (c8.set (p := ⟨gr, i * 2 + 1, none⟩) (u := .string q) hgrr)
              have HG8 := Lib.hid (grown_set (p := ⟨gr, i * 2 + 1, none⟩) (u := .string q) ((grown_below HG7.out bA2).trans g8) hwr)
              have HL8 := Lib.hid (HSL.out _ gr (i * 2 + 1) (.string q) hbr ((HL7.out.below bA2).kept g8 (fun b e e2 => by injection e with e; have := (HL7.out.lt e2).1; omega)))
              clear o8 c8 g8 f8 r80 bA bA2 hq0 HST
              go_wp2
              go_meet
              case rel => exact ⟨⟨_, _, HO9.out, by simp [Hnp.out, hnp], HQ.out⟩, HC8.out.more (by omega), HG8.out, HL8.out, HB.out, hB2⟩
            · have q4 : (y == 3) = false := by simpa using e3
              by_cases e4 : y = 4
              · have q5 : (y == 4) = true := by simp [e4]
                clear e0 e1 e2 e3 e4 hy1
                obtain ⟨z, hz⟩ : ∃ z, IntKind.i64.wrap (x'.at_ + 30) = z := ⟨_, rfl⟩
                have hzo : i64ok z := by rw [← hz]; exact wrap_ok _
                have HO8 := Lib.hid (HO7.out.setAt HX.out HR.out z hzo)
                have HQ := Lib.hid (all_set (k := k) HPQ.out (t := { x' with at_ := z }) (by exact HRS.out x' (List.mem_of_getElem? HX.out)))
                go_wp2
                go_meet
                case rel => exact ⟨⟨_, _, HO8.out, by simp [Hnp.out, hnp], HQ.out⟩, (HC7.out.set hgg).more (by omega), grown_set HG7.out hwb, HSL.out _ _ _ _ hb0 HL7.out, HB.out, hB2⟩
              · have q5 : (y == 4) = false := by simpa using e4
                clear e0 e1 e2 e3 e4 hy1
                go_wp2
                go_meet
                case rel => exact ⟨⟨_, _, HO7.out, by simp [Hnp.out, hnp], HPQ.out⟩, HC7.out.more (by omega), HG7.out, HL7.out, HB.out, hB2⟩
    · have q0 : decide (0 < np) = false := by simp; omega
      go_wp2
      go_meet
      case rel => exact ⟨⟨_, _, HO3.out, by simp [Hnp.out, hnp], HRS.out⟩, HC4.out.more (by omega), HG3.out, HOL.out, HB.out, hB2⟩
  case rest => as_aux_lemma =>
    obtain ⟨⟨p, rows', o4, hp4, hq4⟩, c4, g4, ol4, ha4, hf4⟩ := hcut
    have HQ4 := Lib.hid hq4
    have HO4 := Lib.hid o4
    clear hq4 o4
    go_wp2_with fail
    refine (one_any g _ 4 _ c4 (by omega) (by omega)).mono ?_
    rintro e w5 ⟨b, rfl, c5, g5⟩
    have hgB : g < B := by omega
    have HO5 := Lib.hid (HO4.out.keptg g5 hgB)
    have G5 := g4.trans g5
    have ol5 := ol4.kept g5 (fun b e e2 => by injection e with e; have := (ol4.lt e2).1; omega)
    have HF := Lib.hid (show Fine 8 l from fun s hs => ⟨(HLS.out s hs).2, (HLS.out s hs).1⟩)
    cases b with
    | false =>
      go_wp2
      go_ret2
      exact ⟨_, l, _, p, rows', rfl, ol5, by rw [Hnl.out]; omega, HF.out.more (by omega), HO5.out.more hf4, hp4, HQ4.out, c5.more (by omega), G5⟩
    | true =>
      go_wp2_with fail
      refine (other_any g _ 8 Al nl cl l _ c5 (by omega) ol5.strs (by omega) HF.out (by omega) (by omega)).mono ?_
      rintro e w6 ⟨v6, l6, rfl, s6⟩
      go_wp2
      go_ret2
      exact ⟨_, l6, _, p, rows', rfl, s6.own.more (Nat.le_trans G5.size (Nat.le_refl _)), Nat.le_trans s6.len (by omega), s6.fine, (HO5.out.keptg s6.grown hgB).more hf4, hp4, HQ4.out, s6.cur.more (by omega), G5.trans s6.grown⟩

set_option maxHeartbeats 1000000 in
theorem width_any (g M : Nat) (w : World) (h : Curs w g M) (hM : M ≤ 1000000) :
    Calls Tryz.prog 97 #[.pointer (some ⟨g, 0, none⟩)] w fun e w' => ∃ x : Int, 0 ≤ x ∧ x ≤ 60 ∧ e = .returned (.int .i64 x) ∧ Curs w' g (M + 4) ∧ w.grownBy w' (some g) := by
  have hlt := h.lt
  go_enter Tryz.func97, Tryz.ntmps97
  go_wp2_with fail
  refine (amongN_any g M w.heap.size 6 [0, 1, 2, 3, 3, 20] _ (h.below (below_alloc _ _)) (by omega) (heap_alloc_new w _) (by omega) rfl (by omega) (by omega)).mono ?_
  rintro e w1 ⟨W, hW, rfl, c1, g1⟩
  have hWr : 0 ≤ W ∧ W ≤ 20 := by
    simp only [List.mem_cons, List.not_mem_nil, or_false] at hW
    omega
  obtain ⟨hW0, hW1⟩ := hWr
  have G1 := Lib.hid ((grown_alloc (grown_refl w (some g)) (.cells (ints [0, 1, 2, 3, 3, 20]) 3)).trans g1)
  clear hW g1
  go_wp2_with fail
  refine (pick_any g _ 30 _ c1 (by omega) (by omega)).mono ?_
  rintro e w2 ⟨y, rfl, hy0, hy1, c2, g2⟩
  have hy : y ≤ 29 := by omega
  have G2 := Lib.hid (G1.out.trans g2)
  clear hy1 g2
  go_wp2
  go_ret
  refine ⟨_, ?_, ?_, rfl, c2.more (by omega), G2.out⟩
  · omega
  · omega

set_option maxHeartbeats 1000000 in
theorem DrawGroupsOf_any (a : Option Addr) (n c : Nat) (w : World) (h : Bytes w a n) (hn : n ≤ 1048576) :
    Calls Tryz.prog 53 #[.slice a n c] w fun e w' => ∃ A n1 c1 l A2 n2 c2 hs, ∃ W : Int, e = .returned (.tuple #[.slice A n1 c1, .slice A2 n2 c2, .int .i64 W]) ∧ 0 ≤ W ∧ W ≤ 60 ∧ DrewLH w w' A n1 c1 l A2 n2 c2 hs := by
  have c0 := Curs.new (c := c) h hn
  go_enter Tryz.func53, Tryz.ntmps53
  go_wp2_with fail
  refine (hunked_any _ 0 _ c0 (by omega)).mono ?_
  rintro e w1 ⟨A, n1, c1, l, A2, n2, c2, out, vs, B, rfl, o1, h1, h2, h3, h4, h5, h6, o2, h7, h8, c3, g1⟩
  obtain ⟨_, _, e2, hc2, _⟩ := o2.form o2.hks.len
  injection e2 with e2 e3 e4
  have hc22 : n2 ≤ c2 := by omega
  have H3 := Lib.hid h3
  have H8 := Lib.hid h8
  have HO1 := Lib.hid o1
  have HO2 := Lib.hid o2
  have hzz : w.heap.size < B := by simp at h5; omega
  clear h3 h4 h6 h8 o1 o2 e2 e3 e4 h5
  go_wp2_with fail
  refine (width_any _ _ _ c3 (by omega)).mono ?_
  rintro e w2 ⟨W, hW0, hW1, rfl, c4, g2⟩
  have HD := Lib.hid (show DrewLH w w2 A n1 c1 l A2 n2 c2 out from ⟨(HO1.out.kept g2 (fun b e e2 => by injection e with e; have := (HO1.out.lt e2).1; simp at this; omega)).strs, h1, h2, H3.out, (HO2.out.keptg g2 hzz).hks, hc22, h7, H8.out, below_new (g1.trans g2)⟩)
  clear g1 g2 c3 c4
  go_wp2
  go_ret3
  exact ⟨A, n1, c1, l, A2, n2, c2, out, W, rfl, hW0, hW1, HD.out⟩

set_option maxHeartbeats 1000000 in
theorem DrawUnifiedText_any (a : Option Addr) (n c : Nat) (w : World) (h : Bytes w a n) (hn : n ≤ 1048576) :
    Calls Tryz.prog 16 #[.slice a n c] w fun e w' => ∃ A n1 c1 l A2 n2 c2 hs, ∃ W : Int, e = .returned (.tuple #[.slice A n1 c1, .slice A2 n2 c2, .int .i64 W]) ∧ 0 ≤ W ∧ W ≤ 60 ∧ DrewLH w w' A n1 c1 l A2 n2 c2 hs := by
  go_enter Tryz.func16, Tryz.ntmps16
  go_wp2_with fail
  refine (DrawGroupsOf_any a n c _ h hn).mono ?_
  rintro e w1 ⟨A, n1, c1, l, A2, n2, c2, out, W, rfl, hW0, hW1, hd⟩
  have HD := Lib.hid hd
  clear hd
  go_wp2
  go_ret3
  exact ⟨A, n1, c1, l, A2, n2, c2, out, W, rfl, hW0, hW1, HD.out⟩

def DrewG (w w' : World) (A : Option Addr) (n c : Nat) (p : List Gp) : Prop := Gps w' A n p ∧ n ≤ c ∧ n ≤ 6 ∧ (∀ x ∈ p, x.rows.length ≤ 1048576) ∧ Below w.heap.size w w'
def DrewLG (w w' : World) (A : Option Addr) (n c : Nat) (l : List ByteArray) (A2 : Option Addr) (n2 c2 : Nat) (p : List Gp) : Prop :=
  Strs w' A n l ∧ n ≤ c ∧ n ≤ 12 ∧ Fine 9 l ∧ DrewG w w' A2 n2 c2 p

set_option maxHeartbeats 1000000 in
theorem DrawGroupHunks_any (a : Option Addr) (n c : Nat) (w : World) (h : Bytes w a n) (hn : n ≤ 1048576) :
    Calls Tryz.prog 59 #[.slice a n c] w fun e w' => ∃ A n1 c1 l A2 n2 c2 p, e = .returned (.tuple #[.slice A n1 c1, .slice A2 n2 c2]) ∧ DrewLG w w' A n1 c1 l A2 n2 c2 p := by
  have c0 := Curs.new (c := c) h hn
  go_enter Tryz.func59, Tryz.ntmps59
  go_wp2_with fail
  refine (groups_any _ 0 _ c0 (by omega)).mono ?_
  rintro e w1 ⟨vl, l, v, p, rows, rfl, o1, h1, h2, o2, h3, h4, c3, g1⟩
  obtain ⟨A, c1, rfl, hc1, _⟩ := o1.form rfl
  obtain ⟨A2, c2, rfl, hc2, _⟩ := o2.form rfl
  have HD := Lib.hid (show DrewLG w w1 A l.length c1 l A2 p.length c2 p from ⟨o1.strs, hc1, h1, h2, o2.gps, hc2, h3, h4, below_new g1⟩)
  clear h2 h4 o1 o2
  go_wp2
  go_ret2
  exact ⟨A, _, c1, l, A2, _, c2, p, rfl, HD.out⟩

set_option maxHeartbeats 1000000 in
theorem DrawApplyGroups_any (a : Option Addr) (n c : Nat) (w : World) (h : Bytes w a n) (hn : n ≤ 1048576) :
    Calls Tryz.prog 22 #[.slice a n c] w fun e w' => ∃ A n1 c1 l A2 n2 c2 p, e = .returned (.tuple #[.slice A n1 c1, .slice A2 n2 c2]) ∧ DrewLG w w' A n1 c1 l A2 n2 c2 p := by
  go_enter Tryz.func22, Tryz.ntmps22
  go_wp2_with fail
  refine (DrawGroupHunks_any a n c _ h hn).mono ?_
  rintro e w1 ⟨A, n1, c1, l, A2, n2, c2, p, rfl, hd⟩
  have HD := Lib.hid hd
  clear hd
  go_wp2
  go_ret2
  exact ⟨A, n1, c1, l, A2, n2, c2, p, rfl, HD.out⟩

end Go.Proofs.YtkamenidgkjodaaGreatDoor
