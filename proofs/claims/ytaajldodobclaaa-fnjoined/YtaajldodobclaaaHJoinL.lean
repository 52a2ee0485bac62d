/-
  JoinHunks of the program, whole.
-/
import Derived.Test.YtaajldodobclaaaHJoinI
set_option linter.unusedSimpArgs false
set_option linter.unusedVariables false
namespace Go.Proofs.Ytaajldodobclaaa
open Go.RowKit M

/-- Pairs that the call itself has laid, each in a block of its own. -/
structure OwnQ (w : World) (base : Nat) (v : Value) (L : List (Nat × Nat)) (gs : List Nat) : Prop where
  len : gs.length = L.length
  row : w.ownsRow base 83 1 v L.length (gs.map fun g => Value.slice (some ⟨g, 0, none⟩) 2 2)
  cells : ∀ (k g : Nat) (s : Nat × Nat), gs[k]? = some g → L[k]? = some s → w.cell? ⟨g, 0, none⟩ = some (.int .i64 (s.1 : Int)) ∧ w.cell? ⟨g, 1, none⟩ = some (.int .i64 (s.2 : Int)) ∧ v.ownBlock ≠ some g
theorem OwnQ.nil_ {w : World} {base : Nat} : OwnQ w base (.slice none 0 0) [] [] := ⟨rfl, w.ownsRow_nil base _ _, fun k g s h => by simp at h⟩
theorem OwnQ.below {w w' : World} {base : Nat} {v : Value} {L : List (Nat × Nat)} {gs : List Nat} (h : OwnQ w base v L gs) (hb : Below w.heap.size w w') : OwnQ w' base v L gs :=
  ⟨h.len, h.row.kept (grown_of_below hb none) (by cases v.ownBlock <;> simp), fun k g s hg hs => ⟨cell_keep hb (h.cells k g s hg hs).1, cell_keep hb (h.cells k g s hg hs).2.1, (h.cells k g s hg hs).2.2⟩⟩
theorem OwnQ.form {w : World} {base n : Nat} {v : Value} {L : List (Nat × Nat)} {gs : List Nat} (h : OwnQ w base v L gs) (hn : L.length = n) : ∃ A cap, v = .slice A n cap ∧ n ≤ cap := by
  subst hn
  rcases h.row.2 with ⟨hv, h0⟩ | ⟨g, cap, cur, hv, _, _, h1, h2, _⟩
  · exact ⟨none, 0, by rw [hv, h0], by omega⟩
  · exact ⟨_, cap, hv, h1⟩
theorem OwnQ.prs {w : World} {base n cap : Nat} {A : Option Addr} {L : List (Nat × Nat)} {gs : List Nat} (h : OwnQ w base (.slice A n cap) L gs) : Prs w A n L := by
  rcases h.row.2 with ⟨hv, h0⟩ | ⟨g, cap', cur, hv, _, hh, h1, h2, h3, h4⟩
  · injection hv with e1 e2 e3
    exact ⟨by omega, .inl ⟨e1, e2⟩, fun k s hs => by rw [List.eq_nil_of_length_eq_zero h0] at hs; simp at hs⟩
  · injection hv with e1 e2 e3
    subst e1 e2
    refine ⟨rfl, .inr ⟨_, _, rfl⟩, fun k s hs => ?_⟩
    have hk : k < gs.length := by rw [h.len]; exact (List.getElem?_eq_some_iff.1 hs).1
    have hg := List.getElem?_eq_getElem hk
    obtain ⟨q0, q1, _⟩ := h.cells k _ s hg hs
    refine ⟨g, 0, _, rfl, ?_, q0, q1⟩
    have h5 := h.row.cells (g := g) rfl k (Value.slice (some ⟨gs[k], 0, none⟩) 2 2) (by rw [List.getElem?_map, hg]; rfl)
    have e : (⟨g, 0, none⟩ : Addr).add k = ⟨g, 0 + k, none⟩ := by unfold Addr.add; by_cases hk : k = 0 <;> simp [hk]
    rw [e] at h5
    exact h5
theorem wpList_q {w : World} {ops : Array Oper} {rest : List Oper} {o : Oper} {a : Act} {Q : Exit → Act → World → Prop} (s y : Operand) (base : Nat) (v : Value) (L : List (Nat × Nat)) (gs : List Nat) (hown : OwnQ w base v L gs) (x : Nat × Nat) (gb gi : Nat) (h0 : w.cell? ⟨gb, 0, none⟩ = some (.slice (some ⟨gi, 0, none⟩) 2 2)) (h1 : w.cell? ⟨gi, 0, none⟩ = some (.int .i64 (x.1 : Int))) (h2 : w.cell? ⟨gi, 1, none⟩ = some (.int .i64 (x.2 : Int)))
    (hgi : v.ownBlock ≠ some gi) (hbound : L.length ≤ 1000) (hbase : base ≤ w.heap.size)
    (hgd : Region.wanted o (yielded ops a.tmps) = true) (ho : o.op = .call { callee := .builtin .append, args := #[s, y], argTypes := #[82, 82] }) (hs : a.eval s = v) (hy : a.eval y = .slice (some ⟨gb, 0, none⟩) 1 1)
    (h : ∀ v' w', OwnQ w' base v' (L ++ [x]) (gs ++ [gi]) → w.grownBy w' v.ownBlock → wpList Try.prog ops Q rest (a.put o.dst v') w') : wpList Try.prog ops Q (o :: rest) a w := by
  refine wpList_wanted hgd fun K hK => ?_
  obtain ⟨i, q1, q2, q3, q4⟩ := info_parts ints_info
  have hnews : ∀ j t, [Value.slice (some ⟨gi, 0, none⟩) 2 2][j]? = some t → w.cell? ((⟨gb, 0, none⟩ : Addr).add j) = some t := by
    intro j t ht
    match j, ht with
    | 0, ht => simp at ht; subst ht; simpa [Addr.add] using h0
  obtain ⟨v', w', hrun, hr, hg, _, hat⟩ := run_append_own_at (P := Try.prog) w base 82 o.type 83 i _ 1 24 Try.underlying82 q1 q2 q3 q4 (by simp [Value.cells]) (by omega) v L.length _ hown.row ⟨gb, 0, none⟩ 1 1 [.slice (some ⟨gi, 0, none⟩) 2 2] (by simp) hnews (fun t ht => by
    simp at ht
    rw [ht]; rfl) (by unfold maxLen; omega) (by omega) hbase
  have hlt : ∀ g, (∃ u, w.cell? ⟨g, 0, none⟩ = some u) → g < w.heap.size := fun g ⟨u, hu⟩ => cell_lt hu
  unfold Oper.wp execOp
  simp only [ho, resolve, invoke, builtin, Sem.run_bind, Sem.run_pure, Result.andThen_ok, List.map_toArray, List.map_cons, List.map_nil, hs, hy, hrun]
  refine hK _ _ (h v' w' ⟨by simp [hown.len], by rw [List.map_append, List.length_append]; exact hr, fun k g s hg' hs' => ?_⟩ hg)
  have hone : w.cell? ⟨g, 0, none⟩ = some (.int .i64 (s.1 : Int)) ∧ w.cell? ⟨g, 1, none⟩ = some (.int .i64 (s.2 : Int)) ∧ v.ownBlock ≠ some g := by
    rcases list_snoc_get hg' with ⟨hk, hg'⟩ | ⟨hk, rfl⟩
    · rcases list_snoc_get hs' with ⟨_, hs'⟩ | ⟨hk2, _⟩
      · exact hown.cells k g s hg' hs'
      · rw [hown.len] at hk; omega
    · rcases list_snoc_get hs' with ⟨hk2, _⟩ | ⟨_, rfl⟩
      · rw [hown.len] at hk; omega
      · exact ⟨h1, h2, hgi⟩
  obtain ⟨a0, a1, a2⟩ := hone
  refine ⟨hg.cell a0 (fun e => a2 e.symm), hg.cell a1 (fun e => a2 e.symm), ?_⟩
  rcases hat with hat | hat
  · rw [hat]; exact a2
  · rw [hat]; intro e; injection e with e; have := hlt g ⟨_, a0⟩; omega

theorem placeOf_yes {l : List Hk} {many k p : Nat} (hg : goodH many l = true) (hk : k ≤ many) (h : placeN l k = p) : placeOf l many k = ((p : Int), true) := by
  unfold placeOf
  rw [if_pos ⟨hg, by omega, by omega, by omega⟩, h]
theorem placeOf_no {l : List Hk} {many k : Int} (h : ¬ 0 ≤ placeN l k) : placeOf l many k = (0, false) := if_neg (fun e => h e.2.2.2)

set_option maxHeartbeats 4000000 in
set_option maxRecDepth 100000 in
theorem implJoinHunks_any (a : Option Addr) (nl cl : Nat) (l : List ByteArray) (b1 : Option Addr) (n1 c1 : Nat) (ha : List Hk) (b2 : Option Addr) (n2 c2 : Nat) (hb : List Hk) (w : World) (hl : Strs w a nl l) (hcl : nl ≤ cl) (h1 : Hks w b1 n1 ha) (h2 : Hks w b2 n2 hb) (hnl : nl ≤ 1048576) :
    Calls Try.prog 37 #[.slice a nl cl, .slice b1 n1 c1, .slice b2 n2 c2] w fun e w' => ∃ v vs, e = .returned (.tuple #[v, .bool (joinOf l ha hb).2]) ∧ OwnH w' w.heap.size v (joinOf l ha hb).1 vs ∧ Below w.heap.size w w' := by
  have hml := patchOf_len l ha
  cases hq1 : patchOk l ha
  · have hf := Lib.hid (show joinOf l ha hb = ([], false) from if_neg (by simp [joinOk, hq1]))
    have hp1 := patchOf_no hq1
    go_enter Try.func37, Try.ntmps37
    go_wp2_with fail
    refine (implPatch_any a nl cl l b1 n1 c1 ha _ hl hcl h1 hnl).mono ?_
    rintro e w1 ⟨v1, rfl, o1, d1⟩
    rw [hp1] at o1 ⊢
    dsimp only at o1 ⊢
    go_wp2
    go_ret2
    exact ⟨_, [], by rw [hf.out]; rfl, by rw [hf.out]; exact OwnH.nil_, d1⟩
  · have hp1 := patchOf_yes hq1
    rw [hp1] at hml
    dsimp only at hml
    obtain ⟨mid, Hmid⟩ : ∃ mid, Hid (mid = patchH l ha) := ⟨_, rfl⟩
    rw [← Hmid.out] at hp1 hml
    obtain ⟨nm1, HM1⟩ : ∃ nm1, Hid (mid.length = nm1) := ⟨_, rfl⟩
    rw [HM1.out] at hml
    cases hq2 : patchOk mid hb
    · have hf := Lib.hid (show joinOf l ha hb = ([], false) from if_neg (by rw [Hmid.out] at hq2; simp [joinOk, hq2]))
      have hp2 := patchOf_no hq2
      go_enter Try.func37, Try.ntmps37
      go_wp2_with fail
      refine (implPatch_any a nl cl l b1 n1 c1 ha _ hl hcl h1 hnl).mono ?_
      rintro e w1 ⟨v1, rfl, o1, d1⟩
      rw [hp1] at o1 ⊢
      dsimp only at o1 ⊢
      obtain ⟨A1, cap1, rfl, hc1, _⟩ := o1.form HM1.out
      go_wp2_with fail
      refine (implPatch_any A1 nm1 cap1 mid b2 n2 c2 hb _ o1.strs hc1 (h2.below d1) hml).mono ?_
      rintro e w2 ⟨v2, rfl, o2, d2⟩
      rw [hp2]
      go_wp2
      go_ret2
      exact ⟨_, [], by rw [hf.out]; rfl, by rw [hf.out]; exact OwnH.nil_, d1.next d2⟩
    · have hp2 := patchOf_yes hq2
      obtain ⟨last, Hlast⟩ : ∃ last, Hid (last = patchH mid hb) := ⟨_, rfl⟩
      rw [← Hlast.out] at hp2
      obtain ⟨nm, HM⟩ : ∃ nm, Hid (last.length = nm) := ⟨_, rfl⟩
      obtain ⟨g1, g2, g3⟩ := patchOk_parts hq1
      obtain ⟨g4, g5, g6⟩ := patchOk_parts hq2
      have hnl40 : nl ≤ 40 := by rw [← hl.len]; exact goodB_len g1
      have hnm40 : nm ≤ 40 := by rw [← HM.out, Hlast.out]; exact goodB_len g6
      have hnm1 : nm1 ≤ 40 := by rw [← HM1.out]; exact goodB_len g4
      have HL := Lib.hid hl.len
      have HGA := Lib.hid (show goodH nl ha = true by rw [← HL.out]; exact g2)
      have HGB := Lib.hid (show goodH nm1 hb = true by rw [← HM1.out]; exact g5)
      have hgb' : goodH (patchH l ha).length hb = true := by rw [← Hmid.out]; exact g5
      have HSR := Lib.hid (stops_rise g2 hgb')
      have HSL := Lib.hid (fun s hs => stops_le g2 hgb' (s := s) hs)
      have HST := Lib.hid (show stopsOf l ha hb = staysTo ha hb nl ++ [(nl, nm)] by unfold stopsOf; rw [← Hmid.out, ← Hlast.out, HM.out, HL.out])
      have HJH := Lib.hid (show joinH l ha hb = joinFrom last 0 0 (staysTo ha hb nl ++ [(nl, nm)]) by unfold joinH; rw [HST.out, ← Hmid.out, ← Hlast.out])
      have HPA := Lib.hid (fun k (hk : k < nl) (h0 : 0 ≤ placeN ha k) => by have h5 := place_at g2 (show k < l.length by rw [HL.out]; exact hk) h0; rw [← Hmid.out, HM1.out] at h5; exact h5)
      have HPB := Lib.hid (fun k (hk : k < nm1) (h0 : 0 ≤ placeN hb k) => place_at g5 (show k < mid.length by rw [HM1.out]; exact hk) h0)
      clear g1 g2 g3 g4 g5 g6 hgb'
      have HJO := Lib.hid (show joinOf l ha hb = if goodH l.length (joinH l ha hb) = true then (joinH l ha hb, true) else ([], false) by
        unfold joinOf joinOk
        rw [hq1, ← Hmid.out, hq2]
        simp)
      clear hq1 hq2
      go_enter Try.func37, Try.ntmps37
      go_wp2_with fail
      refine (implPatch_any a nl cl l b1 n1 c1 ha _ hl hcl h1 hnl).mono ?_
      rintro e w1 ⟨v1, rfl, o1, d1⟩
      rw [hp1] at o1 ⊢
      dsimp only at o1 ⊢
      obtain ⟨A1, cap1, rfl, hc1, _⟩ := o1.form HM1.out
      go_wp2_with fail
      refine (implPatch_any A1 nm1 cap1 mid b2 n2 c2 hb _ o1.strs hc1 (h2.below d1) hml).mono ?_
      rintro e w2 ⟨v2, rfl, o2, d2⟩
      rw [hp2] at o2 ⊢
      dsimp only at o2 ⊢
      obtain ⟨A2, cap2, rfl, hc2, _⟩ := o2.form HM.out
      have D2 := d1.next d2
      have hD2 := Lib.hid D2
      clear hp1 hp2
      go_wp2
      go_loopw [11, 36] (fun v k w' => ∃ kk : Nat, ∃ gs, k = .int .i64 kk ∧ kk ≤ nl ∧ OwnQ w' w2.heap.size v (staysTo ha hb kk) gs ∧ Below w2.heap.size w2 w') (fun _ k _ => nl - (intOf k).toNat)
      case atStart => exact ⟨0, [], rfl, by omega, OwnQ.nil_, Below.refl _ _⟩
      case round =>
        obtain ⟨kk, gs, rfl, hkk, op, hb'⟩ := hrel
        have hLn := stays_len ha hb kk
        by_cases hlt : kk < nl
        · have HSS := Lib.hid (stays_step ha hb kk)
          by_cases hp : 0 ≤ placeN ha kk
          · obtain ⟨p, _, hpe, _, hp4⟩ := HPA.out kk hlt hp
            have HPL := Lib.hid (placeOf_yes HGA.out (show kk ≤ nl by omega) hpe)
            by_cases hq : 0 ≤ placeN hb p
            · obtain ⟨q, _, hqe, _, _⟩ := HPB.out p hp4 hq
              have HSO := Lib.hid (stay_some hpe hqe)
              have HQL := Lib.hid (placeOf_yes HGB.out (show p ≤ nm1 by omega) hqe)
              clear hp hq hpe hqe
              go_wp2_with fail
              refine (implPlaceOf_any b1 n1 c1 ha nl kk _ ((h1.below hD2.out).below hb') ⟨by omega, by omega⟩).mono ?_
              rintro e w3 ⟨rfl, d3⟩
              rw [HPL.out]
              go_wp2_with fail
              refine (implPlaceOf_any b2 n2 c2 hb nm1 p _ (((h2.below hD2.out).below hb').below d3) ⟨by omega, by omega⟩).mono ?_
              rintro e w4 ⟨rfl, d4⟩
              rw [HQL.out]
              have op4 := op.below (d3.next d4)
              have hne : u11.ownBlock ≠ some w4.heap.size := fun e => by have := (op4.row.lt _ e).2; omega
              have HNE := Lib.hid hne
              clear hne
              have dd := Lib.hid ((below_alloc w4 (.cells #[.int .i64 (kk : Int), .int .i64 (q : Int)] 3)).next (below_alloc _ (.cells #[.slice (some ⟨w4.heap.size, 0, none⟩) 2 2] 83)))
              go_wp2_with (first
                | (at_builtin; refine wpList_q (.tmp 58) (.tmp 62) w2.heap.size u11 (staysTo ha hb kk) gs (op4.below dd.out) (kk, q) (w4.heap.size + 1) w4.heap.size (by simp) (by simp) (by simp) HNE.out (by omega) (Nat.le_trans hb'.size (Nat.le_trans (d3.next d4).size dd.out.size)) rfl rfl rfl rfl ?_
                   intro v5 w5 o5 g5
                   have HB5 := Lib.hid (Below.grown ((hb'.next (d3.next d4)).next dd.out) g5 (Nat.le_trans hb'.size (Nat.le_trans (d3.next d4).size dd.out.size)) (fun k e => (op.row.lt k e).1)))
                | fail)
              go_roundw
              case rel => exact ⟨kk + 1, _, by go_num, by omega, by rw [HSS.out, HSO.out]; exact o5, HB5.out⟩
              case measure => simp [intOf]; omega
            · have HSO := Lib.hid (stay_none (a := ha) (b := hb) (k := kk) (by rw [hpe]; exact fun h => hq h.2))
              have HQL := Lib.hid (placeOf_no (many := nm1) hq)
              clear hp hq hpe
              go_wp2_with fail
              refine (implPlaceOf_any b1 n1 c1 ha nl kk _ ((h1.below hD2.out).below hb') ⟨by omega, by omega⟩).mono ?_
              rintro e w3 ⟨rfl, d3⟩
              rw [HPL.out]
              go_wp2_with fail
              refine (implPlaceOf_any b2 n2 c2 hb nm1 p _ (((h2.below hD2.out).below hb').below d3) ⟨by omega, by omega⟩).mono ?_
              rintro e w4 ⟨rfl, d4⟩
              rw [HQL.out]
              have op4 := op.below (d3.next d4)
              go_wp2
              go_roundw
              case rel => exact ⟨kk + 1, gs, by go_num, by omega, by rw [HSS.out, HSO.out]; simp only [Option.toList_none, List.append_nil]; exact op4, hb'.next (d3.next d4)⟩
              case measure => simp [intOf]; omega
          · have HSO := Lib.hid (stay_none (a := ha) (b := hb) (k := kk) (fun h => hp h.1))
            have HPL := Lib.hid (placeOf_no (many := nl) hp)
            clear hp
            go_wp2_with fail
            refine (implPlaceOf_any b1 n1 c1 ha nl kk _ ((h1.below hD2.out).below hb') ⟨by omega, by omega⟩).mono ?_
            rintro e w3 ⟨rfl, d3⟩
            rw [HPL.out]
            have op4 := op.below d3
            go_wp2
            go_roundw
            case rel => exact ⟨kk + 1, gs, by go_num, by omega, by rw [HSS.out, HSO.out]; simp only [Option.toList_none, List.append_nil]; exact op4, hb'.next d3⟩
            case measure => simp [intOf]; omega
        · obtain rfl : kk = nl := by omega
          have HSL' := Lib.hid (show ∀ s ∈ staysTo ha hb kk ++ [(kk, nm)], s.1 ≤ kk ∧ s.2 ≤ nm by
            rw [← HST.out]
            intro s hs
            have h5 := HSL.out s hs
            rw [HL.out, ← Hmid.out, ← Hlast.out, HM.out] at h5
            exact h5)
          have HSR' := Lib.hid (show rises 0 0 (staysTo ha hb kk ++ [(kk, nm)]) by rw [← HST.out]; exact HSR.out)
          obtain ⟨np, Hnp⟩ : ∃ np, Hid ((staysTo ha hb kk).length = np) := ⟨_, rfl⟩
          obtain ⟨Ap, capp, hve, hcp⟩ := op.form Hnp.out
          subst hve
          go_wp2_with fail
          refine (hunksAround_any a kk cl A2 nm cap2 last Ap np capp (staysTo ha hb kk) _ (o2.strs.below hb') hc2 op.prs hcp HSR'.out HSL'.out hnl40 hnm40 (by have := Hnp.out; omega)).mono ?_
          rintro e w6 ⟨v6, vs6, rfl, o6, d6⟩
          rw [← HJH.out] at o6
          obtain ⟨A6, cap6, rfl, hc6, _⟩ := o6.form rfl
          have B6 := (hD2.out.next hb').next d6
          go_wp2_with fail
          refine (implGoodHunks_any (kk : Int) A6 _ cap6 (joinH l ha hb) _ o6.hks ⟨by omega, by omega⟩).mono ?_
          rintro e w7 ⟨rfl, d7⟩
          rw [← HL.out]
          cases hgj : goodH l.length (joinH l ha hb)
          · have hf := Lib.hid (show joinOf l ha hb = ([], false) by rw [HJO.out, hgj]; rfl)
            go_wp2
            go_ret2
            exact ⟨_, [], by rw [hf.out]; rfl, by rw [hf.out]; exact OwnH.nil_, B6.next d7⟩
          · have hf := Lib.hid (show joinOf l ha hb = (joinH l ha hb, true) by rw [HJO.out, hgj]; rfl)
            go_wp2
            go_ret2
            exact ⟨_, vs6, by rw [hf.out]; rfl, by rw [hf.out]; exact (o6.below d7).more (Nat.le_trans hD2.out.size hb'.size), B6.next d7⟩

end Go.Proofs.Ytaajldodobclaaa
