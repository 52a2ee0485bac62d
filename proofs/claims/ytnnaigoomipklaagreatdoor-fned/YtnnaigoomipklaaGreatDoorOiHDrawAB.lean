/-
  Hunks that are drawn: both texts in one.
-/
import Derived.Test.YtnnaigoomipklaaGreatDoorOiHDrawT
set_option linter.unusedSimpArgs false
set_option linter.unusedVariables false
namespace Go.Proofs.YtnnaigoomipklaaGreatDoor
open Go.RowKit M

/-- What is known of any drawn hunk. -/
def smallA (x : Hk) : Prop := -1 ≤ x.at_ ∧ x.at_ ≤ 100 ∧ 0 ≤ x.gone ∧ x.gone ≤ 9 ∧ x.new.length ≤ 4 ∧ ∀ s ∈ x.new, s.size ≤ 8
theorem smallH.any {x : Hk} (h : smallH x) : smallA x := ⟨h.1, h.2.1, h.2.2.1, by have := h.2.2.2.1; omega, by have := h.2.2.2.2.1; omega, h.2.2.2.2.2⟩
theorem all_set {α : Type} {P : α → Prop} {l : List α} {k : Nat} {t : α} (h : ∀ s ∈ l, P s) (ht : P t) : ∀ s ∈ l.set k t, P s := by
  intro s hs
  rcases List.mem_or_eq_of_mem_set hs with h1 | h1
  · exact h s h1
  · rw [h1]; exact ht

/-- The New of one hunk is another one by now: in its own block still, or in a new one. -/
theorem OwnH.newAt {w w' : World} {base n cap g k : Nat} {l : List Hk} {vs : List Value} {x : Hk} {u u' : Value} {r : List ByteArray} (h : OwnH w base (.slice (some ⟨g, 0, none⟩) n cap) l vs) (hx : l[k]? = some x) (hu : vs[k]? = some u) (hw : w.grownBy w' u.ownBlock)
    (ho : OwnV w' base u' r) (ha : u'.ownBlock = u.ownBlock ∨ ∀ b, u'.ownBlock = some b → w.heap.size ≤ b) :
    OwnH (w'.setCell ⟨g, k * 3 + 2, none⟩ u') base (.slice (some ⟨g, 0, none⟩) n cap) (l.set k ⟨x.at_, x.gone, r⟩) (vs.set k u') := by
  have hn : l.length = n := h.hks.len
  have hk : k < n := by rw [← hn]; exact (List.getElem?_eq_some_iff.1 hx).1
  obtain ⟨xs, h1, h2⟩ := h.row
  have hxl := h1.1
  have hgr : (Value.slice (some ⟨g, 0, none⟩) n cap).ownBlock = some g := rfl
  have hug : u.ownBlock ≠ some g := fun e => h.apart k u g hu e hgr
  have hglt := (h.lt (.inl hgr)).2
  have hu'g : u'.ownBlock ≠ some g := by
    rcases ha with ha | ha
    · rw [ha]; exact hug
    · intro e; have := ha g e; omega
  have hw2 : Wrote (fun i => u.ownBlock = some i) w w' := Wrote.of_grown hw (fun _ e => e)
  have h1' := ownsRow_wrote h1 hw2 (fun i e e2 => by rw [hgr] at e; injection e with e; subst e; exact hug e2)
  rw [hn] at h1'
  have hs : Wrote (fun i => i = g) w' (w'.setCell ⟨g, k * 3 + 2, none⟩ u') := Wrote.set _ _ _ _ rfl
  refine ⟨by simp [h.len], ⟨_, by rw [List.length_set, hn]; exact (h1'.stored (k * 3 + 2) u').1, fun j y t hy ht => ?_⟩, fun j y t hy ht => ?_, fun j t b ht e => ?_, fun i j t t' b ht ht' e e' => ?_, fun y hy => ?_⟩
  · rcases set_get hy with ⟨rfl, rfl⟩ | ⟨hne, hy⟩
    · rcases set_get ht with ⟨_, rfl⟩ | ⟨hne, ht⟩
      · obtain ⟨q0, q1, q2⟩ := h2 k x u hx hu
        exact ⟨set_ne q0 (by omega), set_ne q1 (by omega), set_eq (by omega)⟩
      · exact absurd rfl hne
    · rcases set_get ht with ⟨e, rfl⟩ | ⟨hne, ht⟩
      · exact absurd e hne
      · obtain ⟨q0, q1, q2⟩ := h2 j y t hy ht
        exact ⟨set_ne q0 (by omega), set_ne q1 (by omega), set_ne q2 (by omega)⟩
  · rcases set_get hy with ⟨rfl, rfl⟩ | ⟨hne, hy⟩
    · rcases set_get ht with ⟨_, rfl⟩ | ⟨hne, ht⟩
      · exact ho.wrote hs (fun b e e2 => hu'g (by rw [e, e2]))
      · exact absurd rfl hne
    · rcases set_get ht with ⟨e, rfl⟩ | ⟨hne, ht⟩
      · exact absurd e hne
      · exact ((h.news j y t hy ht).wrote hw2 (fun b e e2 => hne (h.apart2 k j u t b hu ht e2 e))).wrote hs (fun b e e2 => h.apart j t b ht e (by rw [e2]; rfl))
  · rcases set_get ht with ⟨_, rfl⟩ | ⟨hne, ht⟩
    · intro e2; rw [hgr] at e2; injection e2 with e2; subst e2; exact hu'g e
    · exact h.apart j t b ht e
  · have hnew : ∀ j t, k ≠ j → vs[j]? = some t → t.ownBlock = some b → u'.ownBlock = some b → False := by
      intro j t hne ht e e'
      rcases ha with ha | ha
      · exact hne (h.apart2 k j u t b hu ht (by rw [← ha]; exact e') e)
      · have h5 := ha b e'
        have h6 := (h.lt (.inr ⟨j, t, ht, e⟩)).2
        omega
    rcases set_get ht with ⟨rfl, rfl⟩ | ⟨hne, h3⟩
    · rcases set_get ht' with ⟨rfl, rfl⟩ | ⟨hne', h4⟩
      · rfl
      · exact (hnew j t' hne' h4 e' e).elim
    · rcases set_get ht' with ⟨rfl, rfl⟩ | ⟨hne', h4⟩
      · exact (hnew i t hne h3 e e').elim
      · exact h.apart2 i j t t' b h3 h4 e e'
  · rcases List.mem_or_eq_of_mem_set hy with h5 | h5
    · exact h.ints y h5
    · rw [h5]; exact h.ints x (List.mem_of_getElem? hx)

set_option maxHeartbeats 400000 in
theorem among_any (g M bl : Nat) (w : World) (h : Curs w g M) (hM : M ≤ 1048000) (hb : w.heap[bl]? = some (.cells #[.int .i64 (-1), .int .i64 40, .int .i64 3] 3 (0, 0))) (hbg : bl ≠ g) :
    Calls Tryz.prog 215 #[.pointer (some ⟨g, 0, none⟩), .slice (some ⟨bl, 0, none⟩) 3 3] w fun e w' => ∃ x : Int, -1 ≤ x ∧ x ≤ 40 ∧ e = .returned (.int .i64 x) ∧ Curs w' g (M + 2) ∧ w.grownBy w' (some g) := by
  have HB := Lib.hid hb
  have hlt := (Array.getElem?_eq_some_iff.1 hb).1
  clear hb
  go_enter Tryz.func215, Tryz.ntmps215
  go_wp2_with fail
  refine (pick_any g M 3 _ h hM (by omega)).mono ?_
  rintro e w1 ⟨x, rfl, hx0, hx1, c1, g1⟩
  have hb1 : w1.heap[bl]? = some (.cells #[.int .i64 (-1), .int .i64 40, .int .i64 3] 3 (0, 0)) := (g1.block bl hlt (by simp; exact hbg)).trans HB.out
  have hx3 : x = 0 ∨ x = 1 ∨ x = 2 := by omega
  clear hx1 hx0
  rcases hx3 with rfl | rfl | rfl
  · have hc : w1.cell? ⟨bl, 0, none⟩ = some (.int .i64 (-1)) := by simp [World.cell?, hb1]
    go_wp2
    go_ret
    exact ⟨-1, by omega, by omega, rfl, c1, g1⟩
  · have hc : w1.cell? ⟨bl, 1, none⟩ = some (.int .i64 40) := by simp [World.cell?, hb1]
    go_wp2
    go_ret
    exact ⟨40, by omega, by omega, rfl, c1, g1⟩
  · have hc : w1.cell? ⟨bl, 2, none⟩ = some (.int .i64 3) := by simp [World.cell?, hb1]
    go_wp2
    go_ret
    exact ⟨3, by omega, by omega, rfl, c1, g1⟩

end Go.Proofs.YtnnaigoomipklaaGreatDoor

namespace Go.Proofs.YtnnaigoomipklaaGreatDoor
open Go.RowKit M

theorem Curs.set {w : World} {g M : Nat} {p : Addr} {u : Value} (h : Curs w g M) (hp : g < p.block) : Curs (w.setCell p u) g M := by
  obtain ⟨a, n, c, k, seed, q1, q2, q3, q4, q5⟩ := h.ex
  have hk : ∀ b, b ≤ g → (w.setCell p u).heap[b]? = w.heap[b]? := fun b hb => Below.heap_setCell _ _ _ _ (by omega)
  exact ⟨a, n, c, k, seed, (hk g (Nat.le_refl _)).trans q1, q2, q3, q4, q5.keep fun b hb => hk b (by omega)⟩
theorem grown_set {a w : World} {row : Option Nat} {p : Addr} {u : Value} (h : a.grownBy w row) (hp : a.heap.size ≤ p.block) : a.grownBy (w.setCell p u) row :=
  ⟨h.os, h.tape, h.output, by simpa [World.setCell] using h.size, fun i hi hne => (Below.heap_setCell _ _ _ _ (by omega)).trans (h.block i hi hne)⟩

set_option maxHeartbeats 2000000 in
set_option maxRecDepth 100000 in
theorem anyHunks_any (g M : Nat) (a : Option Addr) (n c : Nat) (l : List ByteArray) (w : World) (h : Curs w g M) (hM : M ≤ 800000) (hl : Strs w a n l) (hag : ∀ x, a = some x → x.block ≠ g) (hn : n ≤ 40) (hne : ∀ s, l.getLast? = some s → 1 ≤ s.size) :
    Calls Tryz.prog 185 #[.pointer (some ⟨g, 0, none⟩), .slice a n c] w fun e w' => ∃ v out vs, e = .returned v ∧ OwnH w' w.heap.size v out vs ∧ out.length ≤ 6 ∧ (∀ x ∈ out, smallA x) ∧ Curs w' g (M + 700) ∧ w.grownBy w' (some g) := by
  have hlt := h.lt
  go_enter Tryz.func185, Tryz.ntmps185
  go_wp2_with fail
  refine (hunks_any g M a n c l _ h (by omega) hl hag hn hne).mono ?_
  rintro e w1 ⟨v, out, vs, rfl, o1, hlen, hsm, c1, g1⟩
  have HSM := Lib.hid hsm
  have HSA := Lib.hid (show ∀ x ∈ out, smallA x from fun x hx => (hsm x hx).any)
  clear hsm hag hne
  obtain ⟨no, Hno⟩ : ∃ no, Hid (out.length = no) := ⟨_, rfl⟩
  obtain ⟨Ao, capo, hve, _⟩ := o1.form Hno.out
  subst hve
  have hno6 : no ≤ 6 := by rw [← Hno.out]; exact hlen
  clear hlen
  by_cases h0 : 0 < no
  · have q0 : decide (0 < no) = true := by simp; omega
    go_wp2_with fail
    refine (pick_any g _ no _ c1 (by omega) (by omega)).mono ?_
    rintro e w2 ⟨k, rfl, hk0, hk1, c2, g2⟩
    obtain ⟨k, rfl⟩ := Int.eq_ofNat_of_zero_le hk0
    have hkn : k < no := by omega
    clear hk1 hk0 q0
    have o2 := o1.keptg g2 hlt
    have hg2 := g1.trans g2
    go_wp2_with fail
    refine (pick_any g _ 25 _ c2 (by omega) (by omega)).mono ?_
    rintro e w3 ⟨y, rfl, hy0, hy1, c3, g3⟩
    have o3 := o2.keptg g3 hlt
    have hg3 := hg2.trans g3
    obtain ⟨gb, x, ua, um, uc, rfl, hb0, hgb, hx, hu, hmc, k0, k1, k2, ou, i0, i1, hfz⟩ := o3.at_ hkn
    have HX := Lib.hid hx
    have HU := Lib.hid hu
    have hxs := HSM.out x (List.mem_of_getElem? hx)
    have HXS := Lib.hid hxs
    have HO3 := Lib.hid o3
    have HOU := Lib.hid ou
    have hgg : g < gb := by omega
    clear hx hu o1 o2 o3 g1 g2 g3 hg2 c1 c2 ou hxs
    have HG3 := Lib.hid hg3
    have HC3 := Lib.hid c3
    clear hg3 c3
    by_cases e0 : y = 0
    · have q1 : (y == 0) = true := by simp [e0]
      clear e0 hy1
      go_wp2_with fail
      refine (among_any g _ w3.heap.size _ (HC3.out.below (below_alloc _ _)) (by omega) (heap_alloc_new _ _) (by have := HC3.out.lt; omega)).mono ?_
      rintro e w4 ⟨z, hz0, hz1, rfl, c4, g4⟩
      have o4 := (HO3.out.below (below_alloc w3 (.cells #[.int .i64 (-1), .int .i64 40, .int .i64 3] 3))).keptg g4 hlt
      obtain ⟨gb', x', ua', um', uc', e', _, hgb4, hx4, hu4, hmc4, k40, k41, k42, ou4, i04, i14, hfz4⟩ := o4.at_ hkn
      injection e' with e'
      injection e' with e'
      subst e'
      have o5 := o4.setAt HX.out z ⟨by omega, by omega⟩
      have HO5 := Lib.hid o5
      have HG5 := Lib.hid (grown_set (p := ⟨gb, k * 3, none⟩) (u := .int .i64 z) ((grown_alloc HG3.out _).trans g4) hb0)
      have HC5 := Lib.hid (c4.set (p := ⟨gb, k * 3, none⟩) (u := .int .i64 z) hgg)
      have HF := Lib.hid (all_set (k := k) HSA.out (t := ⟨z, x.gone, x.new⟩) ⟨by dsimp only; omega, by dsimp only; omega, HXS.out.any.2.2⟩)
      clear o4 o5 ou4 hx4 hu4
      go_wp2
      go_ret
      exact ⟨_, _, _, rfl, HO5.out, by simp [Hno.out, hno6], HF.out, HC5.out.more (by omega), HG5.out⟩
    · have q1 : (y == 0) = false := by simpa using e0
      by_cases e1 : y = 1
      · have q2 : (y == 1) = true := by simp [e1]
        clear e0 e1 hy1
        have hg6 : 0 ≤ x.gone ∧ x.gone ≤ 6 := ⟨HXS.out.2.2.1, HXS.out.2.2.2.1⟩
        obtain ⟨hg60, hg61⟩ := hg6
        have HO5 := Lib.hid (HO3.out.setGone HX.out (x.gone + 3) ⟨by omega, by omega⟩)
        have HG5 := Lib.hid (grown_set (p := ⟨gb, k * 3 + 1, none⟩) (u := .int .i64 (x.gone + 3)) HG3.out hb0)
        have HC5 := Lib.hid (HC3.out.set (p := ⟨gb, k * 3 + 1, none⟩) (u := .int .i64 (x.gone + 3)) hgg)
        have HF := Lib.hid (all_set (k := k) HSA.out (t := ⟨x.at_, x.gone + 3, x.new⟩) ⟨HXS.out.1, HXS.out.2.1, by dsimp only; omega, by dsimp only; omega, HXS.out.any.2.2.2.2⟩)
        go_wp2
        go_ret
        exact ⟨_, _, _, rfl, HO5.out, by simp [Hno.out, hno6], HF.out, HC5.out.more (by omega), HG5.out⟩
      · have q2 : (y == 1) = false := by simpa using e1
        by_cases e2 : y = 2
        · have q3 : (y == 2) = true := by simp [e2]
          clear e0 e1 e2 hy1
          have ol := OwnV.lit w3 w.heap.size (Nat.le_trans hb0 (by omega)) [⟨#[]⟩] (by simp [maxLen]) (fun s hs => by simp at hs; rw [hs]; decide)
          have HO5 := Lib.hid (HO3.out.newAt HX.out HU.out (World.grownBy_alloc w3 (.cells #[.string ⟨#[]⟩] 9) _) ol (.inr (fun b e => by simp [Value.ownBlock] at e; omega)))
          have HG5 := Lib.hid (grown_set (p := ⟨gb, k * 3 + 2, none⟩) (u := .slice (some ⟨w3.heap.size, 0, none⟩) 1 1) (grown_alloc HG3.out (.cells #[.string ⟨#[]⟩] 9)) hb0)
          have HC5 := Lib.hid ((HC3.out.below (below_alloc w3 (.cells #[.string ⟨#[]⟩] 9))).set (p := ⟨gb, k * 3 + 2, none⟩) (u := .slice (some ⟨w3.heap.size, 0, none⟩) 1 1) hgg)
          have HF := Lib.hid (all_set (k := k) HSA.out (t := ⟨x.at_, x.gone, [⟨#[]⟩]⟩) ⟨HXS.out.any.1, HXS.out.any.2.1, HXS.out.any.2.2.1, HXS.out.any.2.2.2.1, by simp, fun s hs => by simp at hs; rw [hs]; decide⟩)
          have kA : ∀ o, (w3.alloc o).cell? ⟨gb, k * 3 + 2, none⟩ = some (.slice ua um uc) := fun o => cell_keep (below_alloc w3 o) k2
          have fA : ∀ o j, (w3.alloc o).frozen? ⟨gb, j, none⟩ = false := fun o j => ((below_alloc w3 o).frozen hgb).trans (hfz j)
          clear ol
          have HCO := Lib.hid (World.setCell_alloc_past (w := w3) (.cells #[.string ⟨#[]⟩] 9) gb (k * 3 + 2) (.slice (some ⟨w3.heap.size, 0, none⟩) 1 1) hgb).symm
          go_wp2
          go_ret
          rw [HCO.out]
          exact ⟨_, _, _, rfl, HO5.out, by simp [Hno.out, hno6], HF.out, HC5.out.more (by omega), HG5.out⟩
        · have q3 : (y == 2) = false := by simpa using e2
          by_cases e3 : y = 3
          · have q4 : (y == 3) = true := by simp [e3]
            clear e0 e1 e2 e3 hy1
            have hst := strs_one w3 ⟨#[101, 110, 100]⟩ (by decide)
            have bA := Lib.hid (below_alloc w3 (.cells #[.string ⟨#[101, 110, 100]⟩] 9))
            have hum : x.new.length ≤ 3 := HXS.out.2.2.2.2.1
            go_wp2_with (first
              | (at_builtin; refine app_strs (.tmp 53) (.tmp 54) w.heap.size (.slice ua um uc) x.new (HOU.out.below (below_alloc _ _)) _ 1 1 [⟨#[101, 110, 100]⟩] hst (by omega) (by simp; omega) rfl rfl rfl rfl ?_
                 intro v5 w5 o5 g5 p5
                 have hgr5 : w3.grownBy w5 (Value.slice ua um uc).ownBlock := grown_more (grown_alloc (grown_refl w3 _) (.cells #[.string ⟨#[101, 110, 100]⟩] 9)) g5 (fun b e => .inr e)
                 have HO5 := Lib.hid (HO3.out.newAt HX.out HU.out hgr5 o5 (by
                   rcases p5 with p5 | p5
                   · exact .inl p5
                   · exact .inr (fun b e => by rw [p5] at e; injection e with e; simp at e; omega)))
                 have HUB := Lib.hid (show some gb ≠ (Value.slice ua um uc).ownBlock from fun e => HO3.out.apart k _ gb HU.out e.symm rfl)
                 have k52 : w5.cell? ⟨gb, k * 3 + 2, none⟩ = some (.slice ua um uc) := hgr5.cell k2 HUB.out
                 have f5 : ∀ j, w5.frozen? ⟨gb, j, none⟩ = false := fun j => (hgr5.frozen_far ⟨gb, j, none⟩ hgb HUB.out).trans (hfz j)
                 have HG5 := Lib.hid (grown_more (grown_alloc HG3.out (.cells #[.string ⟨#[101, 110, 100]⟩] 9)) g5 (fun b e => .inl (HOU.out.lt e).1))
                 have HC5 := Lib.hid ((HC3.out.below bA.out).kept g5 (fun b e => by have := (HOU.out.lt e).1; omega))
                 obtain ⟨u5A, u5c, hu5, _, _⟩ := o5.form (show (x.new ++ [(⟨#[101, 110, 100]⟩ : ByteArray)]).length = um + 1 by simp [HOU.out.strs.len])
                 subst hu5)
              | fail)
            go_ret
            refine ⟨_, _, _, rfl, HO5.out, by simp [Hno.out, hno6], all_set (k := k) (t := ⟨x.at_, x.gone, x.new ++ [⟨#[101, 110, 100]⟩]⟩) HSA.out ⟨HXS.out.any.1, HXS.out.any.2.1, HXS.out.any.2.2.1, HXS.out.any.2.2.2.1, by simp; omega, all_snoc HXS.out.2.2.2.2.2 (by decide)⟩, (HC5.out.set hgg).more (by omega), grown_set HG5.out hb0⟩
          · have q4 : (y == 3) = false := by simpa using e3
            clear e0 e1 e2 e3 hy1
            go_wp2
            go_ret
            exact ⟨_, out, vs, rfl, HO3.out, by rw [Hno.out]; exact hno6, HSA.out, HC3.out.more (by omega), HG3.out⟩
  · have q0 : decide (0 < no) = false := by simp; omega
    go_wp2
    go_ret
    exact ⟨_, out, vs, rfl, o1, by rw [Hno.out]; exact hno6, HSA.out, c1.more (by omega), g1⟩

end Go.Proofs.YtnnaigoomipklaaGreatDoor
