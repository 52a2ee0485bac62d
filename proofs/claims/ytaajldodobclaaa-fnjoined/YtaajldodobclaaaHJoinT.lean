/-
  JoinHunks of the model, whole.
-/
import Derived.Test.YtaajldodobclaaaHJoinS
import Derived.Test.YtaajldodobclaaaLHPatch
set_option linter.unusedSimpArgs false
set_option linter.unusedVariables false
namespace Go.Proofs.Ytaajldodobclaaa
open Go.RowKit M

theorem join_new {last : List ByteArray} {x : Hk} : ∀ {L : List (Nat × Nat)} {i j : Nat}, x ∈ joinFrom last i j L → x.new.length ≤ last.length
  | [], i, j, h => by simp [joinFrom] at h
  | s :: L, i, j, h => by
    unfold joinFrom at h
    split at h
    · rcases List.mem_cons.1 h with rfl | h
      · unfold joinOne; dsimp only; rw [seg_len]; omega
      · exact join_new h
    · exact join_new h
theorem patchOf_yes {l : List ByteArray} {hs : List Hk} (h : patchOk l hs = true) : patchOf l hs = (patchH l hs, true) := if_pos h
theorem patchOf_no {l : List ByteArray} {hs : List Hk} (h : patchOk l hs = false) : patchOf l hs = ([], false) := if_neg (by simp [h])
theorem stay_none {a b : List Hk} {k : Nat} (h : ¬ (0 ≤ placeN a k ∧ 0 ≤ placeN b (placeN a k))) : stayOf a b k = none := if_neg h
theorem stay_some {a b : List Hk} {k p q : Nat} (hp : placeN a k = p) (hq : placeN b (p : Int) = q) : stayOf a b k = some (k, q) := by
  unfold stayOf
  rw [hp, hq, if_pos ⟨by omega, by omega⟩]
  simp

set_option maxHeartbeats 4000000 in
set_option maxRecDepth 100000 in
theorem specJoinHunks_any (a : Option Addr) (nl cl : Nat) (l : List ByteArray) (b1 : Option Addr) (n1 c1 : Nat) (ha : List Hk) (b2 : Option Addr) (n2 c2 : Nat) (hb : List Hk) (w : World) (hl : Strs w a nl l) (hcl : nl ≤ cl) (h1 : Hks w b1 n1 ha) (h2 : Hks w b2 n2 hb)
    (hnew1 : ∀ x ∈ ha, x.new.length ≤ 1048576) (hnew2 : ∀ x ∈ hb, x.new.length ≤ 1048576) (hnl : nl ≤ 1048576) :
    Calls Try.prog 38 #[.slice a nl cl, .slice b1 n1 c1, .slice b2 n2 c2] w fun e w' => ∃ v vs, e = .returned (.tuple #[v, .bool (joinOf l ha hb).2]) ∧ OwnH w' w.heap.size v (joinOf l ha hb).1 vs ∧ Below w.heap.size w w' := by
  have HN1 := Lib.hid hnew1
  have HN2 := Lib.hid hnew2
  clear hnew1 hnew2
  have hml := patchOf_len l ha
  cases hq1 : patchOk l ha
  · have hf := Lib.hid (show joinOf l ha hb = ([], false) from if_neg (by simp [joinOk, hq1]))
    have hp1 := patchOf_no hq1
    rw [hp1] at hml
    go_enter Try.func38, Try.ntmps38
    go_wp2_with fail
    refine (specPatch_any a nl cl l b1 n1 c1 ha _ hl hcl h1 HN1.out hnl).mono ?_
    rintro e w1 ⟨v1, rfl, o1, d1⟩
    rw [hp1] at o1 ⊢
    dsimp only at o1 ⊢
    obtain ⟨A1, cap1, rfl, hc1, _⟩ := o1.form rfl
    go_wp2_with fail
    refine (specPatch_any A1 0 cap1 [] b2 n2 c2 hb _ o1.strs hc1 (h2.below d1) HN2.out (by omega)).mono ?_
    rintro e w2 ⟨v2, rfl, o2, d2⟩
    go_wp2
    go_ret2
    exact ⟨_, [], by rw [hf.out]; rfl, by rw [hf.out]; exact OwnH.nil_, d1.next d2⟩
  · have hp1 := patchOf_yes hq1
    rw [hp1] at hml
    dsimp only at hml
    obtain ⟨mid, Hmid⟩ : ∃ mid, Hid (mid = patchH l ha) := ⟨_, rfl⟩
    rw [← Hmid.out] at hp1 hml
    obtain ⟨nm1, HM1⟩ : ∃ nm1, Hid (mid.length = nm1) := ⟨_, rfl⟩
    rw [HM1.out] at hml
    cases hq2 : patchOk mid hb
    · have hf := Lib.hid (show joinOf l ha hb = ([], false) from if_neg (by rw [Hmid.out] at hq2; simp [joinOk, hq2]))
      have hp2 := patchOf_no hq2
      go_enter Try.func38, Try.ntmps38
      go_wp2_with fail
      refine (specPatch_any a nl cl l b1 n1 c1 ha _ hl hcl h1 HN1.out hnl).mono ?_
      rintro e w1 ⟨v1, rfl, o1, d1⟩
      rw [hp1] at o1 ⊢
      dsimp only at o1 ⊢
      obtain ⟨A1, cap1, rfl, hc1, _⟩ := o1.form HM1.out
      go_wp2_with fail
      refine (specPatch_any A1 nm1 cap1 mid b2 n2 c2 hb _ o1.strs hc1 (h2.below d1) HN2.out hml).mono ?_
      rintro e w2 ⟨v2, rfl, o2, d2⟩
      rw [hp2]
      go_wp2
      go_ret2
      exact ⟨_, [], by rw [hf.out]; rfl, by rw [hf.out]; exact OwnH.nil_, d1.next d2⟩
    · have hp2 := patchOf_yes hq2
      obtain ⟨last, Hlast⟩ : ∃ last, Hid (last = patchH mid hb) := ⟨_, rfl⟩
      rw [← Hlast.out] at hp2
      obtain ⟨nm, HM⟩ : ∃ nm, Hid (last.length = nm) := ⟨_, rfl⟩
      obtain ⟨g1, g2, g3⟩ := patchOk_parts hq1
      obtain ⟨g4, g5, g6⟩ := patchOk_parts hq2
      have hnl40 : nl ≤ 40 := by rw [← hl.len]; exact goodB_len g1
      have hnm40 : nm ≤ 40 := by rw [← HM.out, Hlast.out]; exact goodB_len g6
      have hnm1 : nm1 ≤ 40 := by rw [← HM1.out]; exact goodB_len g4
      have HL := Lib.hid hl.len
      have HGA := Lib.hid g2
      have HGB := Lib.hid g5
      have hgb' : goodH (patchH l ha).length hb = true := by rw [← Hmid.out]; exact g5
      have HSR := Lib.hid (stops_rise g2 hgb')
      have HSL := Lib.hid (fun s hs => stops_le g2 hgb' (s := s) hs)
      have HST := Lib.hid (show stopsOf l ha hb = staysTo ha hb nl ++ [(nl, nm)] by unfold stopsOf; rw [← Hmid.out, ← Hlast.out, HM.out, HL.out])
      have HJH := Lib.hid (show joinH l ha hb = joinFrom last 0 0 (staysTo ha hb nl ++ [(nl, nm)]) by unfold joinH; rw [HST.out, ← Hmid.out, ← Hlast.out])
      have HPA := Lib.hid (fun k (hk : k < nl) (h0 : 0 ≤ placeN ha k) => by have h5 := place_at g2 (show k < l.length by rw [HL.out]; exact hk) h0; rw [← Hmid.out, HM1.out] at h5; exact h5)
      have HPB := Lib.hid (fun k (hk : k < nm1) (h0 : 0 ≤ placeN hb k) => place_at g5 (show k < mid.length by rw [HM1.out]; exact hk) h0)
      clear g1 g2 g3 g4 g5 g6 hgb'
      have HJO := Lib.hid (show joinOf l ha hb = if goodH l.length (joinH l ha hb) = true then (joinH l ha hb, true) else ([], false) by
        unfold joinOf joinOk
        rw [hq1, ← Hmid.out, hq2]
        simp)
      clear hq1 hq2
      go_enter Try.func38, Try.ntmps38
      go_wp2_with fail
      refine (specPatch_any a nl cl l b1 n1 c1 ha _ hl hcl h1 HN1.out hnl).mono ?_
      rintro e w1 ⟨v1, rfl, o1, d1⟩
      rw [hp1] at o1 ⊢
      dsimp only at o1 ⊢
      obtain ⟨A1, cap1, rfl, hc1, _⟩ := o1.form HM1.out
      go_wp2_with fail
      refine (specPatch_any A1 nm1 cap1 mid b2 n2 c2 hb _ o1.strs hc1 (h2.below d1) HN2.out hml).mono ?_
      rintro e w2 ⟨v2, rfl, o2, d2⟩
      rw [hp2] at o2 ⊢
      dsimp only at o2 ⊢
      obtain ⟨A2, cap2, rfl, hc2, _⟩ := o2.form HM.out
      have D2 := d1.next d2
      have hD2 := Lib.hid D2
      have HLT := Lib.hid (show ∀ g, (Value.slice A2 nm cap2).ownBlock = some g → g < w2.heap.size from fun g e => (o2.lt e).2)
      clear hp1 hp2
      go_wp2
      go_loopw [12, 37] (fun v k w' => ∃ kk : Nat, k = .int .i64 kk ∧ kk ≤ nl ∧ OwnP w' w2.heap.size v (staysTo ha hb kk) ∧ Below w2.heap.size w2 w') (fun _ k _ => nl - (intOf k).toNat)
      case atStart => exact ⟨0, rfl, by omega, World.ownsRow_nil _ _ _ _, Below.refl _ _⟩
      case round =>
        obtain ⟨kk, rfl, hkk, op, hb'⟩ := hrel
        have hLn := stays_len ha hb kk
        by_cases hlt : kk < nl
        · have HSS := Lib.hid (stays_step ha hb kk)
          by_cases hp : 0 ≤ placeN ha kk
          · obtain ⟨p, _, hpe, _, hp4⟩ := HPA.out kk hlt hp
            by_cases hq : 0 ≤ placeN hb p
            · obtain ⟨q, _, hqe, _, _⟩ := HPB.out p hp4 hq
              have HSO := Lib.hid (stay_some hpe hqe)
              clear hp hq
              go_wp2_with fail
              refine (l2Place_any b1 n1 c1 ha kk l.length _ ((h1.below hD2.out).below hb') HGA.out (by omega) (by omega)).mono ?_
              rintro e w3 ⟨rfl, d3⟩
              rw [hpe]
              go_wp2_with fail
              refine (l2Place_any b2 n2 c2 hb p mid.length _ (((h2.below hD2.out).below hb').below d3) HGB.out (by omega) (by omega)).mono ?_
              rintro e w4 ⟨rfl, d4⟩
              rw [hqe]
              have op4 := (World.ownsRow.kept op (grown_of_below (d3.next d4) none) (by cases u12.ownBlock <;> simp))
              go_wp2_with (first
                | (at_builtin; refine wpList_pair (.tmp 50) (.tmp 54) w2.heap.size u12 (staysTo ha hb kk) (op4.alloc _) (kk, q) w4.heap.size (by simp) (by simp) (by omega) (Nat.le_trans hb'.size (Nat.le_trans (d3.next d4).size (by simp))) rfl rfl rfl rfl ?_
                   intro v5 w5 o5 g5 p5
                   have HB5 := Lib.hid (Below.grown ((hb'.next (d3.next d4)).next (below_alloc _ _)) g5 (Nat.le_trans hb'.size (Nat.le_trans (d3.next d4).size (by simp))) (fun k e => (World.ownsRow.lt op k e).1)))
                | fail)
              go_roundw
              case rel => exact ⟨kk + 1, by go_num, by omega, by rw [HSS.out, HSO.out]; exact o5, HB5.out⟩
              case measure => simp [intOf]; omega
            · have HSO := Lib.hid (stay_none (a := ha) (b := hb) (k := kk) (by rw [hpe]; exact fun h => hq h.2))
              have qq : decide (0 ≤ placeN hb (p : Int)) = false := by simpa using hq
              clear hp hq
              go_wp2_with fail
              refine (l2Place_any b1 n1 c1 ha kk l.length _ ((h1.below hD2.out).below hb') HGA.out (by omega) (by omega)).mono ?_
              rintro e w3 ⟨rfl, d3⟩
              rw [hpe]
              go_wp2_with fail
              refine (l2Place_any b2 n2 c2 hb p mid.length _ (((h2.below hD2.out).below hb').below d3) HGB.out (by omega) (by omega)).mono ?_
              rintro e w4 ⟨rfl, d4⟩
              have op4 := (World.ownsRow.kept op (grown_of_below (d3.next d4) none) (by cases u12.ownBlock <;> simp))
              go_wp2
              go_roundw
              case rel => exact ⟨kk + 1, by go_num, by omega, by rw [HSS.out, HSO.out]; simp only [Option.toList_none, List.append_nil]; exact op4, hb'.next (d3.next d4)⟩
              case measure => simp [intOf]; omega
          · have HSO := Lib.hid (stay_none (a := ha) (b := hb) (k := kk) (fun h => hp h.1))
            have qq : decide (0 ≤ placeN ha (kk : Int)) = false := by simpa using hp
            clear hp
            go_wp2_with fail
            refine (l2Place_any b1 n1 c1 ha kk l.length _ ((h1.below hD2.out).below hb') HGA.out (by omega) (by omega)).mono ?_
            rintro e w3 ⟨rfl, d3⟩
            have op4 := (World.ownsRow.kept op (grown_of_below d3 none) (by cases u12.ownBlock <;> simp))
            go_wp2
            go_roundw
            case rel => exact ⟨kk + 1, by go_num, by omega, by rw [HSS.out, HSO.out]; simp only [Option.toList_none, List.append_nil]; exact op4, hb'.next d3⟩
            case measure => simp [intOf]; omega
        · obtain rfl : kk = nl := by omega
          have HSL' := Lib.hid (show ∀ s ∈ staysTo ha hb kk ++ [(kk, nm)], s.1 ≤ kk ∧ s.2 ≤ nm by
            rw [← HST.out]
            intro s hs
            have h5 := HSL.out s hs
            rw [HL.out, ← Hmid.out, ← Hlast.out, HM.out] at h5
            exact h5)
          have HSR' := Lib.hid (show rises 0 0 (staysTo ha hb kk ++ [(kk, nm)]) by rw [← HST.out]; exact HSR.out)
          go_wp2_with fail
          refine (l2Join_any a kk cl A2 nm cap2 last w2.heap.size _ (staysTo ha hb kk) _ (fun w' hg => ((o2.below hb').kept hg (fun g e e2 => by have h5 := HLT.out g e2; have h6 := (World.ownsRow.lt op g e).1; omega)).strs) hc2 op hb'.size HSR'.out HSL'.out hnl40 hnm40 (by omega)).mono ?_
          rintro e w6 ⟨v6, vs6, rfl, o6, d6⟩
          rw [← HJH.out] at o6
          obtain ⟨A6, cap6, rfl, hc6, _⟩ := o6.form rfl
          have B6 := hD2.out.trans ((hb'.trans d6).mono hD2.out.size)
          go_wp2_with fail
          refine (l2Hunks_any (kk : Int) A6 _ cap6 (joinH l ha hb) _ o6.hks ⟨by omega, by omega⟩ (fun x hx => by
            rw [HJH.out] at hx
            have h5 := join_new hx
            rw [HM.out] at h5
            omega)).mono ?_
          rintro e w7 ⟨rfl, d7⟩
          rw [← HL.out]
          cases hgj : goodH l.length (joinH l ha hb)
          · have hf := Lib.hid (show joinOf l ha hb = ([], false) by rw [HJO.out, hgj]; rfl)
            go_wp2
            go_ret2
            exact ⟨_, [], by rw [hf.out]; rfl, by rw [hf.out]; exact OwnH.nil_, B6.next d7⟩
          · have hf := Lib.hid (show joinOf l ha hb = (joinH l ha hb, true) by rw [HJO.out, hgj]; rfl)
            go_wp2
            go_ret2
            exact ⟨_, vs6, by rw [hf.out]; rfl, by rw [hf.out]; exact (o6.below d7).more (Nat.le_trans hD2.out.size hb'.size), B6.next d7⟩

end Go.Proofs.Ytaajldodobclaaa
