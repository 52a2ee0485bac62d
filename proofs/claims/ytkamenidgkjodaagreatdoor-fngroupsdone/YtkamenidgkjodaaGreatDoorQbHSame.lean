/-
  SameHunks, the program's and the model's, and its law.
  Groups applied: the program's groupsCode, GroupHunks and ApplyGroups.
-/
import Derived.Test.YtkamenidgkjodaaGreatDoorQbHGoods
import Derived.Test.YtkamenidgkjodaaGreatDoorQbUPairs
import Derived.Test.YtkamenidgkjodaaGreatDoorQbGImpl
import Derived.Test.YtkamenidgkjodaaGreatDoorQbHPlace
set_option linter.unusedSimpArgs false
set_option linter.unusedVariables false
namespace Go.Proofs.YtkamenidgkjodaaGreatDoor
open Go.RowKit M

set_option maxHeartbeats 400000 in
theorem slicesEqual_any (a b : Option Addr) (n m c d : Nat) (l r : List ByteArray) (w : World) (hl : Strs w a n l) (hr : Strs w b m r) :
    Calls Tryz.prog 139 #[.slice a n c, .slice b m d] w fun e w' => e = .returned (.bool (eqT l r)) ∧ Drawn w w' := by
  have HL := Lib.hid hl.len
  have HR := Lib.hid hr.len
  have hlim := hl.lim
  unfold maxLen at hlim
  by_cases hnm : n = m
  · subst hnm
    have hq : ((n : Int) != (n : Int)) = false := by simp
    go_enter Tryz.func139, Tryz.ntmps139
    go_wp2
    go_loopw [13] (fun i w' => ∃ k : Nat, i = .int .i64 k ∧ k ≤ n ∧ Hid (∀ j s t, j < k → l[j]? = some s → r[j]? = some t → s = t) ∧ Drawn w w') (fun i _ => n - (intOf i).toNat)
    case atStart => exact ⟨0, rfl, by omega, fun j s t h => by omega, Drawn.refl _⟩
    case round =>
      obtain ⟨k, rfl, hk, H, hb⟩ := hrel
      by_cases hlt : k < n
      · obtain ⟨b1, off1, s, rfl, hs, hsz, hc1⟩ := (hl.below hb.below).at_ hlt
        obtain ⟨b2, off2, t, rfl, ht, htz, hc2⟩ := (hr.below hb.below).at_ hlt
        have HS := Lib.hid hs
        have HT := Lib.hid ht
        clear hs ht
        have hi0 : (0 : Int) ≤ (k : Int) := by omega
        have hi1 : (k : Int) < (n : Int) := by omega
        by_cases hst : s = t
        · have hb2 : (s.toList == t.toList) = true := by rw [hst]; simp
          have HST := Lib.hid hst
          clear hst
          go_wp2
          go_quiet (fail)
          go_wp2
          go_roundw
          case rel => exact ⟨k + 1, by go_num, by omega, eq_step H.out HS.out HT.out HST.out, hb.more _⟩
          case measure => simp [intOf]; omega
        · have hb2 := beq_other hst
          have hf := Lib.hid (eqT_at HS.out HT.out hst)
          clear hst
          go_wp2
          go_quiet (fail)
          go_wp2
          go_ret
          exact ⟨ret_bool hf.out.symm, hb.more _⟩
      · have hf := Lib.hid (eqT_all (fun j s t h1 h2 => H.out j s t (by have := (List.getElem?_eq_some_iff.1 h1).1; have := HL.out; omega) h1 h2) (HL.out.trans HR.out.symm))
        go_wp2
        go_ret
        exact ⟨ret_bool hf.out.symm, hb⟩
  · have hq : ((n : Int) != (m : Int)) = true := by simp; omega
    have hf := Lib.hid (eqT_len (l := l) (r := r) (by rw [HL.out, HR.out]; exact hnm))
    go_enter Tryz.func139, Tryz.ntmps139
    go_wp2
    go_ret
    exact ⟨ret_bool hf.out.symm, Drawn.refl _⟩

set_option maxHeartbeats 400000 in
theorem l1SameT_any (a b : Option Addr) (n m c d : Nat) (l r : List ByteArray) (w : World) (hl : Strs w a n l) (hr : Strs w b m r) :
    Calls Tryz.prog 143 #[.slice a n c, .slice b m d] w fun e w' => e = .returned (.bool (eqT l r)) ∧ Drawn w w' := by
  have HL := Lib.hid hl.len
  have HR := Lib.hid hr.len
  have hlim := hl.lim
  unfold maxLen at hlim
  by_cases hnm : n = m
  · subst hnm
    have hq : ((n : Int) != (n : Int)) = false := by simp
    go_enter Tryz.func143, Tryz.ntmps143
    go_wp2
    go_loopw [13] (fun i w' => ∃ k : Nat, i = .int .i64 k ∧ k ≤ n ∧ Hid (∀ j s t, j < k → l[j]? = some s → r[j]? = some t → s = t) ∧ Drawn w w') (fun i _ => n - (intOf i).toNat)
    case atStart => exact ⟨0, rfl, by omega, fun j s t h => by omega, Drawn.refl _⟩
    case round =>
      obtain ⟨k, rfl, hk, H, hb⟩ := hrel
      by_cases hlt : k < n
      · obtain ⟨b1, off1, s, rfl, hs, hsz, hc1⟩ := (hl.below hb.below).at_ hlt
        obtain ⟨b2, off2, t, rfl, ht, htz, hc2⟩ := (hr.below hb.below).at_ hlt
        have HS := Lib.hid hs
        have HT := Lib.hid ht
        clear hs ht
        have hi0 : (0 : Int) ≤ (k : Int) := by omega
        have hi1 : (k : Int) < (n : Int) := by omega
        by_cases hst : s = t
        · have hb2 : (s.toList == t.toList) = true := by rw [hst]; simp
          have HST := Lib.hid hst
          clear hst
          go_wp2
          go_quiet (fail)
          go_wp2
          go_roundw
          case rel => exact ⟨k + 1, by go_num, by omega, eq_step H.out HS.out HT.out HST.out, hb.more _⟩
          case measure => simp [intOf]; omega
        · have hb2 := beq_other hst
          have hf := Lib.hid (eqT_at HS.out HT.out hst)
          clear hst
          go_wp2
          go_quiet (fail)
          go_wp2
          go_ret
          exact ⟨ret_bool hf.out.symm, hb.more _⟩
      · have hf := Lib.hid (eqT_all (fun j s t h1 h2 => H.out j s t (by have := (List.getElem?_eq_some_iff.1 h1).1; have := HL.out; omega) h1 h2) (HL.out.trans HR.out.symm))
        go_wp2
        go_ret
        exact ⟨ret_bool hf.out.symm, hb⟩
  · have hq : ((n : Int) != (m : Int)) = true := by simp; omega
    have hf := Lib.hid (eqT_len (l := l) (r := r) (by rw [HL.out, HR.out]; exact hnm))
    go_enter Tryz.func143, Tryz.ntmps143
    go_wp2
    go_ret
    exact ⟨ret_bool hf.out.symm, Drawn.refl _⟩

end Go.Proofs.YtkamenidgkjodaaGreatDoor

namespace Go.Proofs.YtkamenidgkjodaaGreatDoor
open Go.RowKit Go.ChangeShapes Go.WideShapes M

theorem far_step {l : List ByteArray} {g : List Gp} {k : Nat} {x : Gp} (h : g[k]? = some x) : farB l (g.drop k) = (decide ((l.length : Int) < x.at_ + (lw 3 x.rows).length) || farB l (g.drop (k + 1))) := by
  rw [drop_at h]; simp [farB]
theorem far_mem {l : List ByteArray} {g : List Gp} (h : farB l g = false) {x : Gp} (hx : x ∈ g) : x.at_ + (lw 3 x.rows).length ≤ l.length := by
  unfold farB at h
  rw [List.any_eq_false] at h
  have := h x hx
  simp only [decide_eq_true_eq] at this
  omega
theorem stand_step {l : List ByteArray} {g : List Gp} {k : Nat} {x : Gp} (more : Int) (h : g[k]? = some x) : standsF l more (g.drop k) = ((decide (x.to_ = x.at_ + more) && eqT (lw 3 x.rows) (seg l x.at_.toNat (x.at_.toNat + (lw 3 x.rows).length))) && standsF l (more + ((lw 2 x.rows).length - (lw 3 x.rows).length)) (g.drop (k + 1))) := by
  rw [drop_at h, standsF]; unfold eqT; rfl

set_option maxHeartbeats 4000000 in
set_option maxRecDepth 100000 in
theorem implGroupsCode_any (a : Option Addr) (nl cl : Nat) (l : List ByteArray) (b0 : Option Addr) (n c : Nat) (g : List Gp) (w : World) (hl : Strs w a nl l) (hcl : nl ≤ cl) (hnl : nl ≤ 1048576) (hg : Gps w b0 n g) (hgd : goodG g = true) :
    Calls Tryz.prog 104 #[.slice a nl cl, .slice b0 n c] w fun e w' => e = .returned (.int .i64 (codeG l g)) ∧ Below w.heap.size w w' := by
  have HL := Lib.hid hl.len
  have HN := Lib.hid hg.len
  have HALL := Lib.hid (goodGF_mem (show goodGF 0 0 g = true by unfold goodG at hgd; simp only [Bool.and_eq_true] at hgd; exact hgd.2))
  have hn20 : n ≤ 20 := by rw [← hg.len]; unfold goodG at hgd; simp only [Bool.and_eq_true, decide_eq_true_eq] at hgd; exact hgd.1
  clear hgd
  go_enter Tryz.func104, Tryz.ntmps104
  go_wp2
  go_loopw [12] (fun i w' => ∃ k : Nat, i = .int .i64 (k : Int) ∧ k ≤ n ∧ Hid (farB l (g.drop k) = farB l g) ∧ Below w.heap.size w w') (fun i _ => n - (intOf i).toNat)
  case atStart => exact ⟨0, rfl, by omega, show _ = _ by rw [List.drop_zero], Below.refl _ _⟩
  case round =>
    obtain ⟨k, rfl, hk, HF, hb⟩ := hrel
    by_cases hlt : k < n
    · obtain ⟨b, off, A, m, c', x, rfl, hx, c0, c1, c2, hr, hmc, hok⟩ := (hg.below hb).at_ hlt
      obtain ⟨r80, a0, a9, t0, t9, l3, l2⟩ := groupB_len (HALL.out x (List.mem_of_getElem? hx))
      have hm80 : m ≤ 1048576 := by rw [← hr.len]; omega
      obtain ⟨m3, H3⟩ : ∃ m3, Hid ((lw 3 x.rows).length = m3) := ⟨_, rfl⟩
      have hm3 : m3 ≤ 40 := by rw [← H3.out]; exact l3
      have HST := Lib.hid (far_step (l := l) hx)
      rw [H3.out, HL.out] at HST
      have hw : IntKind.i64.wrap (x.at_ + (m3 : Int)) = x.at_ + (m3 : Int) := by rw [IntKind.wrap_i64]; omega
      have BD := Lib.hid (Below.refl wr.heap.size wr).drew
      have HRW := Lib.hid hr
      have hbb := Lib.hid hb
      clear hx hok r80 t0 t9 l3 l2
      by_cases hfar : (nl : Int) < x.at_ + (m3 : Int)
      · have hq := eq_true hfar
        have hf := Lib.hid (show codeG l g = 3 by
          unfold codeG
          rw [← HF.out, HST.out, decide_eq_true hfar, Bool.true_or]; rfl)
        clear hfar
        go_wp2
        go_region_held3 (fun w' => w'.cell? ⟨b, off + k * 3, none⟩ = some (.int .i64 x.at_)) (first | exact c0 | exact cell_keep BD.out c0 | exact cell_keep D4.out c0 | go_keep)
          (first
            | (go_at_call 38; refine (oldIn_any b (off + k * 3) A m c' x.rows _ (cell_keep BD.out c2) (HRW.out.below BD.out) hm80).mono ?_; rintro e w4 ⟨v4, rfl, o4, b4⟩
               obtain ⟨A4, k4, rfl, hk4, _⟩ := o4.form H3.out
               have D4 := Lib.hid (BD.out.next b4))
            | fail)
        go_wp2
        go_ret
        exact ⟨by rw [hf.out]; rfl, hbb.out.next D4.out⟩
      · have hq := eq_false hfar
        have hN := Lib.hid (show farB l (g.drop (k + 1)) = farB l g by rw [← HF.out, HST.out, decide_eq_false hfar, Bool.false_or])
        clear hfar
        go_wp2
        go_region_held3 (fun w' => w'.cell? ⟨b, off + k * 3, none⟩ = some (.int .i64 x.at_)) (first | exact c0 | exact cell_keep BD.out c0 | exact cell_keep D4.out c0 | go_keep)
          (first
            | (go_at_call 38; refine (oldIn_any b (off + k * 3) A m c' x.rows _ (cell_keep BD.out c2) (HRW.out.below BD.out) hm80).mono ?_; rintro e w4 ⟨v4, rfl, o4, b4⟩
               obtain ⟨A4, k4, rfl, hk4, _⟩ := o4.form H3.out
               have D4 := Lib.hid (BD.out.next b4))
            | fail)
        go_wp2
        go_roundw
        case rel => exact ⟨k + 1, by go_num, by omega, hN, hbb.out.next D4.out⟩
        case measure => simp [intOf]; omega
    · have HFB := Lib.hid (show farB l g = false by rw [← HF.out, List.drop_eq_nil_of_le (by rw [HN.out]; omega)]; rfl)
      have HB1 := Lib.hid hb
      clear HF hb
      go_wp2
      go_loopw [6, 32] (fun q i w' => ∃ k : Nat, ∃ more : Int, q = .int .i64 more ∧ i = .int .i64 (k : Int) ∧ k ≤ n ∧ -40 * (k : Int) ≤ more ∧ more ≤ 40 * (k : Int) ∧ Hid (standsF l more (g.drop k) = standsF l 0 g) ∧ Below w.heap.size w w') (fun _ i _ => n - (intOf i).toNat)
      case atStart => exact ⟨0, 0, rfl, rfl, by omega, by omega, by omega, show _ = _ by rw [List.drop_zero], HB1.out⟩
      case round =>
        obtain ⟨k, more, rfl, rfl, hk, hmo0, hmo1, HS, hb⟩ := hrel
        by_cases hlt : k < n
        · obtain ⟨b, off, A, m, c', x, rfl, hx, c0, c1, c2, hr, hmc, hok⟩ := (hg.below hb).at_ hlt
          obtain ⟨r80, a0, a9, t0, t9, l3, l2⟩ := groupB_len (HALL.out x (List.mem_of_getElem? hx))
          have hm80 : m ≤ 1048576 := by rw [← hr.len]; omega
          obtain ⟨m3, H3⟩ : ∃ m3, Hid ((lw 3 x.rows).length = m3) := ⟨_, rfl⟩
          obtain ⟨m2, H2⟩ : ∃ m2, Hid ((lw 2 x.rows).length = m2) := ⟨_, rfl⟩
          have hm3 : m3 ≤ 40 := by rw [← H3.out]; exact l3
          have hm2 : m2 ≤ 40 := by rw [← H2.out]; exact l2
          obtain ⟨at', ea⟩ : ∃ at' : Nat, x.at_ = (at' : Int) := ⟨x.at_.toNat, by omega⟩
          obtain ⟨hi, Hhi⟩ : ∃ hi : Nat, Hid (hi = at' + m3) := ⟨_, rfl⟩
          have hfit := far_mem HFB.out (List.mem_of_getElem? hx)
          rw [H3.out, HL.out, ea] at hfit
          have hh0 : at' ≤ hi := by have := Hhi.out; omega
          have hh1 : hi ≤ nl := by have := Hhi.out; omega
          have HST := Lib.hid (stand_step (l := l) more hx)
          rw [H3.out, H2.out, ea, Int.toNat_natCast, ← Hhi.out] at HST
          rw [ea] at c0
          have BB := Lib.hid hb
          have HRW := Lib.hid hr
          obtain ⟨tt, HTT⟩ : ∃ tt, Hid (x.to_ = tt) := ⟨_, rfl⟩
          rw [HTT.out] at c1 HST
          obtain ⟨rws, HRS⟩ : ∃ rws, Hid (x.rows = rws) := ⟨_, rfl⟩
          rw [HRS.out] at HST HRW H3 H2
          obtain ⟨am, Ham⟩ : ∃ am : Int, Hid ((at' : Int) + more = am) := ⟨_, rfl⟩
          rw [Ham.out] at HST
          have hw0 : IntKind.i64.wrap ((at' : Int) + more) = am := by rw [IntKind.wrap_i64]; have := Ham.out; omega
          have hw1 : IntKind.i64.wrap ((at' : Int) + (m3 : Int)) = (hi : Int) := by rw [IntKind.wrap_i64]; have := Hhi.out; omega
          have hw2 : IntKind.i64.wrap ((m2 : Int) - (m3 : Int)) = (m2 : Int) - (m3 : Int) := by rw [IntKind.wrap_i64]; omega
          have hw3 : IntKind.i64.wrap (more + ((m2 : Int) - (m3 : Int))) = more + ((m2 : Int) - (m3 : Int)) := by rw [IntKind.wrap_i64]; omega
          have hcut := cut_strs a nl cl at' hi hh0 (by omega)
          clear hx hok r80 t0 t9 l3 l2 hr hb ea a0 a9 hfit
          go_wp2_with fail
          refine (oldIn_any b (off + k * 3) A m c' rws _ c2 HRW.out hm80).mono ?_
          rintro e w4 ⟨v4, rfl, o4, b4⟩
          obtain ⟨A4, k4, rfl, hk4, _⟩ := o4.form H3.out
          have B4 := Lib.hid b4
          have O4 := Lib.hid o4.strs
          have d0 := cell_keep b4 c0
          have d1 := cell_keep b4 c1
          have d2 := cell_keep b4 c2
          have HLS := Lib.hid (((hl.below (BB.out.next b4))).cut hh0 hh1 hcl)
          clear o4 b4 c0 c1 c2
          have HSE := Lib.hid (show ∀ nn, Calls Tryz.prog 139 #[.slice A4 m3 k4, .slice (cutA a cl at') (hi - at') (cl - at')] (w4.drewN nn) fun e w' => e = .returned (.bool (eqT (lw 3 rws) (seg l at' hi))) ∧ ∃ q, w' = (w4.drewN nn).drewN q from fun nn => slicesEqual_any A4 (cutA a cl at') m3 (hi - at') k4 (cl - at') (lw 3 rws) (seg l at' hi) _ (O4.out.below (below_drewN (Below.refl _ w4) nn)) (HLS.out.below (below_drewN (Below.refl _ w4) nn)))
          by_cases hto : tt = am
          · have hne : (tt != am) = false := by simp [hto]
            cases hE : eqT (lw 3 rws) (seg l at' hi)
            · rw [hE] at HSE
              have hf := Lib.hid (show codeG l g = 2 by
                unfold codeG
                rw [HFB.out, ← HS.out, HST.out, hE, Bool.and_false, Bool.false_and]; rfl)
              clear hE hto
              go_wp2
              go_quiet ((go_at_call 139; exact Calls.quiet_of (HSE.out _)))
              go_wp2
              go_ret
              exact ⟨by rw [hf.out]; rfl, (BB.out.next B4.out).next (below_drewN (Below.refl _ _) _)⟩
            · rw [hE] at HSE
              have hN := Lib.hid (show standsF l (more + ((m2 : Int) - m3)) (g.drop (k + 1)) = standsF l 0 g by
                rw [← HS.out, HST.out, hE, decide_eq_true hto, Bool.and_true, Bool.true_and])
              clear hE hto
              go_wp2
              go_quiet ((go_at_call 139; exact Calls.quiet_of (HSE.out _)))
              have q5 := Lib.hid (HRW.out.below B4.out)
              go_wp2_with fail
              refine (newIn_any b (off + k * 3) A m c' rws _ (cell_keep (below_drewN (Below.refl _ _) _) d2) (q5.out.below (below_drewN (Below.refl _ _) _)) hm80).mono ?_
              rintro e w6 ⟨v6, rfl, o6, b6⟩
              obtain ⟨A6, k6, rfl, hk6, _⟩ := o6.form H2.out
              have B6 := Lib.hid (((BB.out.next B4.out).next (below_drewN (Below.refl _ _) _)).next b6)
              clear o6 b6
              go_wp2
              go_roundw
              case rel => exact ⟨k + 1, more + ((m2 : Int) - m3), rfl, by go_num, by omega, by omega, by omega, hN, B6.out⟩
              case measure => simp [intOf]; omega
          · have hne : (tt != am) = true := by simp [hto]
            have hf := Lib.hid (show codeG l g = 2 by
              unfold codeG
              rw [HFB.out, ← HS.out, HST.out, decide_eq_false hto, Bool.false_and, Bool.false_and]; rfl)
            clear hto
            go_wp2
            go_quiet ((go_at_call 139; exact Calls.quiet_of (HSE.out _)))
            go_wp2
            go_ret
            exact ⟨by rw [hf.out]; rfl, (BB.out.next B4.out).next (below_drewN (Below.refl _ _) _)⟩
        · have hf := Lib.hid (show codeG l g = 0 by
            unfold codeG
            rw [HFB.out, ← HS.out, List.drop_eq_nil_of_le (by rw [HN.out]; omega)]; rfl)
          go_wp2
          go_ret
          exact ⟨by rw [hf.out]; rfl, hb⟩

def hunkG (l : List ByteArray) (g : List Gp) : List Hk × Int × Bool :=
  if goodB l = true ∧ goodG g = true then (if codeG l g = 0 then (if (hunksF g).length ≤ 20 then (hunksF g, 0, true) else ([], 0, false)) else ([], codeG l g, true)) else ([], 0, false)
structure Two (w : World) (B : Nat) (v : Value) (done : List Hk) (vs : List Value) (B7 : Nat) (v7 : Value) (hs : List Hk) (vs7 : List Value) (j : Nat) : Prop where
  o : OwnH w B v done vs
  i : OwnH w B7 v7 hs vs7
  a : ∀ g, v.ownBlock = some g → ¬ Blk v7 vs7 g
  b : ∀ g, (∃ (k : Nat) (u : Value), vs[k]? = some u ∧ u.ownBlock = some g) → Blk v7 vs7 g → ∃ (i : Nat) (u : Value), i < j ∧ vs7[i]? = some u ∧ u.ownBlock = some g
section
variable {w w' W : World} {B B7 j : Nat} {v v' v7 u7 : Value} {done hs : List Hk} {vs vs7 : List Value}
theorem Two.below (h : Two w B v done vs B7 v7 hs vs7 j) (hb : Below w.heap.size w w') : Two w' B v done vs B7 v7 hs vs7 j := ⟨h.o.below hb, h.i.below hb, h.a, h.b⟩
theorem Two.free (h : Two w B v done vs B7 v7 hs vs7 j) (hu : vs7[j]? = some u7) : ∀ g, u7.ownBlock = some g → ¬ Blk v vs g := fun g e hb => by
  have hj : Blk v7 vs7 g := .inr ⟨j, u7, hu, e⟩
  rcases hb with hb | hb
  · exact h.a g hb hj
  · obtain ⟨i, u, hi, h1, h2⟩ := h.b g hb hj
    have := h.i.apart2 i j u u7 g h1 hu h2 e
    omega
theorem Two.next (h : Two w B v done vs B7 v7 hs vs7 j) (hu : vs7[j]? = some u7) {x : Hk} (hg : w.grownBy w' v.ownBlock) (p : v'.ownBlock = v.ownBlock ∨ v'.ownBlock = some w.heap.size) (ho : OwnH w' B v' (done ++ [x]) (vs ++ [u7])) : Two w' B v' (done ++ [x]) (vs ++ [u7]) B7 v7 hs vs7 (j + 1) := by
  refine ⟨ho, h.i.wrote (S := fun i => v.ownBlock = some i) (Wrote.of_grown hg (fun _ e => e)) (fun g hb e => h.a g e hb), fun g e hb => ?_, fun g hk hb => ?_⟩
  · rcases p with p | p
    · exact h.a g (by rw [← p]; exact e) hb
    · rw [p] at e; injection e with e; have := (h.i.lt hb).2; omega
  · obtain ⟨k, u, hk, e⟩ := hk
    by_cases hl : k < vs.length
    · rw [List.getElem?_append_left hl] at hk
      obtain ⟨i, u', h0, h1, h2⟩ := h.b g ⟨k, u, hk, e⟩ hb
      exact ⟨i, u', by omega, h1, h2⟩
    · rw [List.getElem?_append_right (by omega)] at hk
      have : u = u7 := by
        by_cases h0 : k - vs.length = 0
        · rw [h0] at hk; injection hk with hk; exact hk.symm
        · rw [List.getElem?_eq_none (by simp; omega)] at hk; cases hk
      subst this
      exact ⟨j, u, by omega, hu, e⟩
theorem Two.start (h : OwnH w B v done vs) (h7 : OwnH w' w.heap.size v7 hs vs7) (hb : Below w.heap.size w w') : Two w' B v done vs w.heap.size v7 hs vs7 0 := by
  refine ⟨h.below hb, h7, fun g e hb' => ?_, fun g hk hb' => ?_⟩
  · have := (h.lt (.inl e)).2; have := (h7.lt hb').1; omega
  · have := (h.lt (.inr hk)).2; have := (h7.lt hb').1; omega
end
theorem bare_mem {rows : List Rw} (hk : kindOk3 rows) (hl : linesB (lw 2 rows) = true) {x : Hk} (hx : x ∈ bareH rows) : 0 ≤ x.at_ ∧ 0 ≤ x.gone ∧ x.at_ + x.gone ≤ (lw 3 rows).length := by
  obtain ⟨a, b, c, _⟩ := hunkB_parts (rise_mem (bare_rise hk hl) hx)
  exact ⟨a, b, c⟩
theorem group_lines {x : Gp} (h : groupB x = true) : linesB (lw 2 x.rows) = true := by
  unfold groupB standB at h
  simp only [Bool.and_eq_true] at h
  exact goodB_lines h.2.1.1

set_option maxHeartbeats 4000000 in
set_option maxRecDepth 100000 in
theorem implGroupHunks_any (a : Option Addr) (nl cl : Nat) (l : List ByteArray) (b0 : Option Addr) (n c : Nat) (g : List Gp) (w : World) (hl : Strs w a nl l) (hcl : nl ≤ cl) (hnl : nl ≤ 1048576) (hg : Gps w b0 n g) :
    Calls Tryz.prog 57 #[.slice a nl cl, .slice b0 n c] w fun e w' => ∃ v vs, e = .returned (.tuple #[v, .int .i64 (hunkG l g).2.1, .bool (hunkG l g).2.2]) ∧ OwnH w' w.heap.size v (hunkG l g).1 vs ∧ Below w.heap.size w w' := by
  have HL := Lib.hid hl.len
  have HN := Lib.hid hg.len
  cases hgl : goodB l
  · have hf := Lib.hid (show hunkG l g = ([], 0, false) by unfold hunkG; rw [hgl]; simp)
    have HGL := Lib.hid hgl
    clear hgl
    go_enter Tryz.func57, Tryz.ntmps57
    go_wp2_with fail
    refine (implGoodLines_any a nl cl l _ hl).mono ?_
    rintro e w1 ⟨rfl, b1⟩
    rw [HGL.out]
    go_wp2
    go_ret3
    exact ⟨_, [], by rw [hf.out]; rfl, by rw [hf.out]; exact OwnH.nil_, b1⟩
  have HGL := Lib.hid hgl
  clear hgl
  cases hgg : goodG g
  · have hf := Lib.hid (show hunkG l g = ([], 0, false) by unfold hunkG; rw [hgg]; simp)
    have HGG := Lib.hid hgg
    clear hgg
    go_enter Tryz.func57, Tryz.ntmps57
    go_wp2_with fail
    refine (implGoodLines_any a nl cl l _ hl).mono ?_
    rintro e w1 ⟨rfl, b1⟩
    rw [HGL.out]
    go_wp2_with fail
    refine (implGoodGroups_any b0 n c g _ (hg.below b1)).mono ?_
    rintro e w2 ⟨rfl, b2⟩
    rw [HGG.out]
    go_wp2
    go_ret3
    exact ⟨_, [], by rw [hf.out]; rfl, by rw [hf.out]; exact OwnH.nil_, b1.next b2⟩
  have HGG := Lib.hid hgg
  have HALL := Lib.hid (goodGF_mem (show goodGF 0 0 g = true by unfold goodG at hgg; simp only [Bool.and_eq_true] at hgg; exact hgg.2))
  have hn20 : n ≤ 20 := by rw [← hg.len]; unfold goodG at hgg; simp only [Bool.and_eq_true, decide_eq_true_eq] at hgg; exact hgg.1
  have HQ := Lib.hid (show hunkG l g = (if codeG l g = 0 then (if (hunksF g).length ≤ 20 then (hunksF g, 0, true) else ([], 0, false)) else ([], codeG l g, true)) from if_pos ⟨HGL.out, hgg⟩)
  clear hgg
  obtain ⟨cd, HCD⟩ : ∃ cd, Hid (codeG l g = cd) := ⟨_, rfl⟩
  rw [HCD.out] at HQ
  by_cases hcd : cd = 0
  case neg =>
    have hne : (cd != 0) = true := by simp [hcd]
    have hf := Lib.hid (show hunkG l g = ([], cd, true) by rw [HQ.out, if_neg hcd])
    clear hcd HQ
    go_enter Tryz.func57, Tryz.ntmps57
    go_wp2_with fail
    refine (implGoodLines_any a nl cl l _ hl).mono ?_
    rintro e w1 ⟨rfl, b1⟩
    rw [HGL.out]
    go_wp2_with fail
    refine (implGoodGroups_any b0 n c g _ (hg.below b1)).mono ?_
    rintro e w2 ⟨rfl, b2⟩
    rw [HGG.out]
    go_wp2_with fail
    refine (implGroupsCode_any a nl cl l b0 n c g _ (hl.below (b1.next b2)) hcl hnl (hg.below (b1.next b2)) HGG.out).mono ?_
    rintro e w3 ⟨rfl, b3⟩
    rw [HCD.out]
    go_wp2
    go_ret3
    exact ⟨_, [], by rw [hf.out]; rfl, by rw [hf.out]; exact OwnH.nil_, (b1.next b2).next b3⟩
  case pos =>
  subst hcd
  have HQ2 := Lib.hid (show hunkG l g = (if (hunksF g).length ≤ 20 then (hunksF g, 0, true) else ([], 0, false)) by rw [HQ.out, if_pos rfl])
  clear HQ
  go_enter Tryz.func57, Tryz.ntmps57
  go_wp2_with fail
  refine (implGoodLines_any a nl cl l _ hl).mono ?_
  rintro e w1 ⟨rfl, b1⟩
  rw [HGL.out]
  go_wp2_with fail
  refine (implGoodGroups_any b0 n c g _ (hg.below b1)).mono ?_
  rintro e w2 ⟨rfl, b2⟩
  rw [HGG.out]
  go_wp2_with fail
  refine (implGroupsCode_any a nl cl l b0 n c g _ (hl.below (b1.next b2)) hcl hnl (hg.below (b1.next b2)) HGG.out).mono ?_
  rintro e w3 ⟨rfl, b3⟩
  rw [HCD.out]
  have B3 := Lib.hid ((b1.next b2).next b3)
  clear b1 b2 b3
  go_wp2
  go_loopw [8, 28] (fun lv i w' => ∃ (v : Value) (vs : List Value) (k : Nat), v = lv ∧ i = .int .i64 (k : Int) ∧ k ≤ n ∧ Hid (OwnH w' w.heap.size v (hunksF (g.take k)) vs) ∧ Hid ((hunksF (g.take k)).length ≤ 80 * k) ∧ Below w.heap.size w w') (fun _ i _ => n - (intOf i).toNat)
  case atStart => exact ⟨_, [], 0, rfl, rfl, by omega, Lib.hid OwnH.nil_, Lib.hid (by simp [hunksF]), B3.out⟩
  case round =>
    obtain ⟨v, vs, k, rfl, rfl, hk, HO, HLE, hb⟩ := hrel
    by_cases hlt : k < n
    · obtain ⟨b, off, A, m, c', x, rfl, hx, c0, c1, c2, hr, hmc, hok⟩ := hg.at_ hlt
      have hgb := HALL.out x (List.mem_of_getElem? hx)
      obtain ⟨r80, a0, a9, t0, t9, l3, l2⟩ := groupB_len hgb
      have hm80 : m ≤ 80 := by rw [← hr.len]; exact r80
      have HK := Lib.hid (group_kinds hgb)
      have HLN := Lib.hid (group_lines hgb)
      have HS := Lib.hid (show hunksF (g.take (k + 1)) = hunksF (g.take k) ++ (bareH x.rows).map (shiftH x.at_) by rw [take_snoc hx, hunksF_snoc, gpHunks_bare])
      obtain ⟨dd, HDD⟩ : ∃ dd, Hid (x.at_ = dd) := ⟨_, rfl⟩
      rw [HDD.out] at c0 HS a0 a9
      obtain ⟨rows, HRS⟩ : ∃ rows, Hid (x.rows = rows) := ⟨_, rfl⟩
      rw [HRS.out] at HK HLN HS hr l3 l2 r80
      have HRW := Lib.hid hr
      have HBM := Lib.hid (show ∀ y ∈ bareH rows, 0 ≤ y.at_ ∧ 0 ≤ y.gone ∧ y.at_ + y.gone ≤ 40 from fun y hy => by obtain ⟨p1, p2, p3⟩ := bare_mem HK.out HLN.out hy; exact ⟨p1, p2, by omega⟩)
      have HB80 := Lib.hid (show (bareH rows).length ≤ 80 by have := runs_len rows 0 none; unfold bareH; simp at this; omega)
      obtain ⟨hs, HHS⟩ : ∃ hs, Hid (bareH rows = hs) := ⟨_, rfl⟩
      obtain ⟨q, HQL⟩ : ∃ q, Hid (hs.length = q) := ⟨_, rfl⟩
      obtain ⟨done, HDN⟩ : ∃ done, Hid (hunksF (g.take k) = done) := ⟨_, rfl⟩
      rw [HHS.out] at HS HBM HB80
      rw [HDN.out] at HS HO HLE
      have hq80 : q ≤ 80 := by rw [← HQL.out]; exact HB80.out
      have BB := Lib.hid hb
      clear hx hgb hok r80 t0 t9 hr hb c1 hmc
      go_wp2_with fail
      refine (hunksIn_any b (off + k * 3) A m c' rows _ (cell_keep BB.out c2) (HRW.out.below BB.out) HK.out l3 l2 hm80).mono ?_
      rintro e w7 ⟨v7, vs7, rfl, o7, b7⟩
      rw [HHS.out] at o7
      obtain ⟨A7, k7, rfl, hk7, _⟩ := o7.form HQL.out
      have HTW := Lib.hid (Two.start HO.out o7 b7)
      have B7 := Lib.hid (BB.out.next b7)
      have hB7 := Lib.hid (show w.heap.size ≤ wr.heap.size from BB.out.size)
      obtain ⟨Bz, HBz⟩ : ∃ Bz, Hid (wr.heap.size = Bz) := ⟨_, rfl⟩
      rw [HBz.out] at HTW hB7
      have HC0 := Lib.hid c0
      have HIN := Lib.hid (show ∀ w2, OwnH w2 Bz (.slice A7 q k7) hs vs7 → ∀ g u, (∃ j, vs7[j]? = some u) → u.ownBlock = some g → Bz ≤ g from fun w2 h g u ⟨j, hu⟩ e => (h.lt (.inr ⟨j, u, hu, e⟩)).1)
      clear o7 b7 c0 c2
      go_wp2
      go_loopw [8, 36] (fun lv i w' => ∃ (v : Value) (vs : List Value) (j : Nat), v = lv ∧ i = .int .i64 (j : Int) ∧ j ≤ q ∧ Hid (Two w' w.heap.size v (done ++ (hs.take j).map (shiftH dd)) vs Bz (.slice A7 q k7) hs vs7 j) ∧ Below w.heap.size w w') (fun _ i _ => q - (intOf i).toNat)
      case atStart => exact ⟨_, vs, 0, rfl, rfl, by omega, Lib.hid (by simpa using HTW.out), B7.out⟩
      case round =>
        obtain ⟨v, vs, j, rfl, rfl, hj, HT, hb⟩ := hrel
        by_cases hlt2 : j < q
        · obtain ⟨g7, y, a2, m2, c2, rfl, hg0, hg1, hy, hu, hmc2, e0, e1, e2, oy, iy0, iy1, hfz⟩ := HT.out.i.at_ hlt2
          obtain ⟨y0, y1, y2⟩ := HBM.out y (List.mem_of_getElem? hy)
          have HU := Lib.hid hu
          have HSJ := Lib.hid (show done ++ (hs.take (j + 1)).map (shiftH dd) = done ++ (hs.take j).map (shiftH dd) ++ [shiftH dd y] by rw [take_snoc hy, List.map_append, List.append_assoc]; rfl)
          have hlen : (done ++ (hs.take j).map (shiftH dd)).length ≤ 1048576 := by have := HLE.out; rw [List.length_append, List.length_map, List.length_take]; omega
          obtain ⟨W, HW⟩ : ∃ W, Hid (W = wr.alloc (.cells #[.int .i64 y.at_, .int .i64 y.gone, .slice a2 m2 c2] 95)) := ⟨_, rfl⟩
          have HB := Lib.hid (show Below wr.heap.size wr W by rw [HW.out]; exact below_alloc _ _)
          have HQ := Lib.hid (show W.heap[wr.heap.size]? = some (.cells #[.int .i64 y.at_, .int .i64 y.gone, .slice a2 m2 c2] 95 (0, 0)) by rw [HW.out]; exact heap_at rfl)
          have HWS := Lib.hid (show W.heap.size = wr.heap.size + 1 by rw [HW.out]; simp)
          have k0 : W.cell? ⟨wr.heap.size, 0, none⟩ = some (.int .i64 y.at_) := by simp [World.cell?, HQ.out]
          have kf : ∀ j, W.frozen? ⟨wr.heap.size, j, none⟩ = false := fun j => by simp [World.frozen?, HQ.out]
          have kd := cell_keep (hb.next HB.out) HC0.out
          have hw : IntKind.i64.wrap (y.at_ + dd) = y.at_ + dd := by rw [IntKind.wrap_i64]; omega
          obtain ⟨W5, HW5⟩ : ∃ W5, Hid (W5 = (W.setCell ⟨wr.heap.size, 0, none⟩ (.int .i64 (y.at_ + dd))).drew) := ⟨_, rfl⟩
          have HB5 := Lib.hid (show Below wr.heap.size wr W5 by rw [HW5.out]; exact (HB.out.setCell (Nat.le_refl _) _).drew)
          have HQ5 := Lib.hid (show W5.heap[wr.heap.size]? = some (.cells #[.int .i64 (y.at_ + dd), .int .i64 y.gone, .slice a2 m2 c2] 95 (0, 0)) by
            rw [HW5.out]
            show (W.setCell _ _).heap[_]? = _
            simp [World.setCell, Array.getElem?_modify, HQ.out])
          have HS5 := Lib.hid (show W5.heap.size = wr.heap.size + 1 by rw [HW5.out]; show (W.setCell _ _).heap.size = _; simp; exact HWS.out)
          have m0 : W5.cell? ⟨wr.heap.size, 0, none⟩ = some (.int .i64 (y.at_ + dd)) := by simp [World.cell?, HQ5.out]
          have m1 : W5.cell? ⟨wr.heap.size, 1, none⟩ = some (.int .i64 y.gone) := by simp [World.cell?, HQ5.out]
          have m2' : W5.cell? ⟨wr.heap.size, 2, none⟩ = some (.slice a2 m2 c2) := by simp [World.cell?, HQ5.out]
          have T6 := Lib.hid ((HT.out.below HB5.out).below (below_alloc W5 (.cells #[.int .i64 (y.at_ + dd), .int .i64 y.gone, .slice a2 m2 c2] 95)))
          have U6 := Lib.hid ((oy.below (HB5.out.next (below_alloc W5 (.cells #[.int .i64 (y.at_ + dd), .int .i64 y.gone, .slice a2 m2 c2] 95)))).more hB7.out)
          have B6 := Lib.hid ((hb.next HB5.out).next (below_alloc W5 (.cells #[.int .i64 (y.at_ + dd), .int .i64 y.gone, .slice a2 m2 c2] 95)))
          have hxo : i64ok (y.at_ + dd) ∧ i64ok y.gone := ⟨⟨by omega, by omega⟩, iy1⟩
          clear hy hu oy iy0 hfz hg0 hg1 hb HQ HQ5 HBz
          go_wp2
          rw [← HW.out]
          go_region_law (fail)
          all_goals rw [← HW5.out]
          all_goals go_wp2_with (first
            | (at_builtin; refine wpList_hk (.tmp 49) (.tmp 51) w.heap.size v _ vs T6.out.o (shiftH dd y) hxo (.slice a2 m2 c2) U6.out (T6.out.free HU.out) W5.heap.size (by simp [shiftH]) (by simp [shiftH]) (by simp) hlen B6.out.size rfl rfl rfl rfl ?_
               intro v9 w9 o9 g9 p9
               have T9 := Lib.hid (T6.out.next HU.out g9 p9 o9)
               have B9 := Lib.hid (Below.grown B6.out g9 B6.out.size (fun g' e => (T6.out.o.lt (.inl e)).1)))
            | fail)
          all_goals go_roundw
          all_goals first | (case measure => simp [intOf]; omega) | skip
          all_goals exact ⟨v9, _, j + 1, rfl, by go_num, by omega, Lib.hid (by rw [HSJ.out]; exact T9.out), B9.out⟩
        · have htk : hs.take j = hs := List.take_of_length_le (by rw [HQL.out]; omega)
          rw [htk] at HT
          go_wp2
          go_roundw
          case rel => exact ⟨v, vs, k + 1, rfl, by go_num, by omega, Lib.hid (by rw [HS.out]; exact HT.out.o), Lib.hid (by rw [HS.out, List.length_append, List.length_map]; have := HLE.out; have := HB80.out; omega), hb⟩
          case measure => simp [intOf]; omega
    · have htk : g.take k = g := List.take_of_length_le (by rw [HN.out]; omega)
      rw [htk] at HO HLE
      obtain ⟨qq, HQQ⟩ : ∃ q, Hid ((hunksF g).length = q) := ⟨_, rfl⟩
      obtain ⟨A8, k8, rfl, hk8, _⟩ := HO.out.form HQQ.out
      rw [HQQ.out] at HQ2
      by_cases h20 : qq ≤ 20
      · have hq := eq_false (show ¬ (20 : Int) < (qq : Int) by omega)
        have hf := Lib.hid (show hunkG l g = (hunksF g, 0, true) by rw [HQ2.out, if_pos h20])
        clear h20
        go_wp2
        go_ret3
        exact ⟨_, vs, by rw [hf.out]; rfl, by rw [hf.out]; exact HO.out, hb⟩
      · have hq := eq_true (show (20 : Int) < (qq : Int) by omega)
        have hf := Lib.hid (show hunkG l g = ([], 0, false) by rw [HQ2.out, if_neg h20])
        clear h20
        go_wp2
        go_ret3
        exact ⟨_, [], by rw [hf.out]; rfl, by rw [hf.out]; exact OwnH.nil_, hb⟩

theorem patchOk_many {l : List ByteArray} {hs : List Hk} (h : ¬ hs.length ≤ 20) : patchOk l hs = false := by
  unfold patchOk goodH
  rw [decide_eq_false h]; simp
theorem hunkG_zero {l : List ByteArray} {g : List Gp} (h1 : goodB l = true) (h2 : goodG g = true) (h3 : codeG l g = 0) : hunkG l g = (if (hunksF g).length ≤ 20 then (hunksF g, 0, true) else ([], 0, false)) := by
  unfold hunkG; rw [if_pos ⟨h1, h2⟩, if_pos h3]
theorem hunkG_code {l : List ByteArray} {g : List Gp} (h1 : goodB l = true) (h2 : goodG g = true) (h3 : ¬ codeG l g = 0) : hunkG l g = ([], codeG l g, true) := by
  unfold hunkG; rw [if_pos ⟨h1, h2⟩, if_neg h3]
theorem applyG_zero {l : List ByteArray} {g : List Gp} (h1 : goodB l = true) (h2 : goodG g = true) (h3 : codeG l g = 0) : applyG l g = (if patchOk l (hunksF g) = true then (patchH l (hunksF g), 0, true) else ([], 2, true)) := by
  unfold applyG; rw [if_pos ⟨h1, h2⟩, if_pos h3]
theorem applyG_code {l : List ByteArray} {g : List Gp} (h1 : goodB l = true) (h2 : goodG g = true) (h3 : ¬ codeG l g = 0) : applyG l g = ([], codeG l g, true) := by
  unfold applyG; rw [if_pos ⟨h1, h2⟩, if_neg h3]

set_option maxHeartbeats 4000000 in
set_option maxRecDepth 100000 in
theorem implApplyGroups_any (a : Option Addr) (nl cl : Nat) (l : List ByteArray) (b0 : Option Addr) (n c : Nat) (g : List Gp) (w : World) (hl : Strs w a nl l) (hcl : nl ≤ cl) (hg : Gps w b0 n g) (hnc : n ≤ c) (hnl : nl ≤ 1048576) :
    Calls Tryz.prog 19 #[.slice a nl cl, .slice b0 n c] w fun e w' => ∃ v, e = .returned (.tuple #[v, .int .i64 (applyG l g).2.1, .bool (applyG l g).2.2]) ∧ OwnV w' w.heap.size v (applyG l g).1 ∧ Below w.heap.size w w' := by
  cases hgl : goodB l
  · have hf := Lib.hid (show applyG l g = ([], 0, false) by unfold applyG; rw [hgl]; simp)
    have HGL := Lib.hid hgl
    clear hgl
    go_enter Tryz.func19, Tryz.ntmps19
    go_wp2_with fail
    refine (implGoodLines_any a nl cl l _ hl).mono ?_
    rintro e w1 ⟨rfl, b1⟩
    rw [HGL.out]
    go_wp2
    go_ret3
    exact ⟨_, by rw [hf.out]; rfl, by rw [hf.out]; exact OwnV.nil_, b1⟩
  have HGL := Lib.hid hgl
  clear hgl
  cases hgg : goodG g
  · have hf := Lib.hid (show applyG l g = ([], 0, false) by unfold applyG; rw [hgg]; simp)
    have HGG := Lib.hid hgg
    clear hgg
    go_enter Tryz.func19, Tryz.ntmps19
    go_wp2_with fail
    refine (implGoodLines_any a nl cl l _ hl).mono ?_
    rintro e w1 ⟨rfl, b1⟩
    rw [HGL.out]
    go_wp2_with fail
    refine (implGoodGroups_any b0 n c g _ (hg.below b1)).mono ?_
    rintro e w2 ⟨rfl, b2⟩
    rw [HGG.out]
    go_wp2
    go_ret3
    exact ⟨_, by rw [hf.out]; rfl, by rw [hf.out]; exact OwnV.nil_, b1.next b2⟩
  have HGG := Lib.hid hgg
  clear hgg
  obtain ⟨cd, HCD⟩ : ∃ cd, Hid (codeG l g = cd) := ⟨_, rfl⟩
  by_cases hcd : cd = 0
  case neg =>
    have hne : (cd != 0) = true := by simp [hcd]
    have hh := Lib.hid (show hunkG l g = ([], cd, true) by rw [hunkG_code HGL.out HGG.out (by rw [HCD.out]; exact hcd), HCD.out])
    have hf := Lib.hid (show applyG l g = ([], cd, true) by rw [applyG_code HGL.out HGG.out (by rw [HCD.out]; exact hcd), HCD.out])
    clear hcd HCD
    go_enter Tryz.func19, Tryz.ntmps19
    go_wp2_with fail
    refine (implGoodLines_any a nl cl l _ hl).mono ?_
    rintro e w1 ⟨rfl, b1⟩
    rw [HGL.out]
    go_wp2_with fail
    refine (implGoodGroups_any b0 n c g _ (hg.below b1)).mono ?_
    rintro e w2 ⟨rfl, b2⟩
    rw [HGG.out]
    go_wp2_with fail
    refine (implGroupHunks_any a nl cl l b0 n c g _ (hl.below (b1.next b2)) hcl hnl (hg.below (b1.next b2))).mono ?_
    rintro e w3 ⟨v3, vs3, rfl, o3, b3⟩
    rw [hh.out]
    go_wp2
    go_ret3
    exact ⟨_, by rw [hf.out]; rfl, by rw [hf.out]; exact OwnV.nil_, (b1.next b2).next b3⟩
  case pos =>
  subst hcd
  have HZ := Lib.hid (applyG_zero HGL.out HGG.out HCD.out)
  have HH := Lib.hid (hunkG_zero HGL.out HGG.out HCD.out)
  obtain ⟨hs, HHS⟩ : ∃ hs, Hid (hunksF g = hs) := ⟨_, rfl⟩
  rw [HHS.out] at HZ HH
  by_cases h20 : hs.length ≤ 20
  case neg =>
    have hh := Lib.hid (show hunkG l g = ([], 0, false) by rw [HH.out, if_neg h20])
    have hf := Lib.hid (show applyG l g = ([], 2, true) by rw [HZ.out, patchOk_many h20]; rfl)
    clear h20 HZ HH
    obtain ⟨d, HD⟩ : ∃ d, Hid ((patchOf l []).2 = d) := ⟨_, rfl⟩
    go_enter Tryz.func19, Tryz.ntmps19
    go_wp2_with fail
    refine (implGoodLines_any a nl cl l _ hl).mono ?_
    rintro e w1 ⟨rfl, b1⟩
    rw [HGL.out]
    go_wp2_with fail
    refine (implGoodGroups_any b0 n c g _ (hg.below b1)).mono ?_
    rintro e w2 ⟨rfl, b2⟩
    rw [HGG.out]
    go_wp2_with fail
    refine (implGroupHunks_any a nl cl l b0 n c g _ (hl.below (b1.next b2)) hcl hnl (hg.below (b1.next b2))).mono ?_
    rintro e w3 ⟨v3, vs3, rfl, o3, b3⟩
    rw [hh.out] at o3 ⊢
    obtain ⟨A3, k3, rfl, hk3, _⟩ := o3.form (n := 0) rfl
    go_wp2_with fail
    refine (implPatch_any a nl cl l A3 0 k3 [] _ (hl.below ((b1.next b2).next b3)) hcl o3.hks hnl).mono ?_
    rintro e w4 ⟨v4, rfl, o4, b4⟩
    rw [HD.out]
    go_wp2
    go_ret3
    exact ⟨_, by rw [hf.out]; rfl, by rw [hf.out]; exact OwnV.nil_, ((b1.next b2).next b3).next b4⟩
  case pos =>
  have hh := Lib.hid (show hunkG l g = (hs, 0, true) by rw [HH.out, if_pos h20])
  clear h20 HH
  obtain ⟨m, HM⟩ : ∃ m, Hid (hs.length = m) := ⟨_, rfl⟩
  cases hp : patchOk l hs
  · have hf := Lib.hid (show applyG l g = ([], 2, true) by rw [HZ.out, hp]; rfl)
    have HP := Lib.hid (show patchOf l hs = ([], false) by unfold patchOf; rw [hp]; rfl)
    clear hp HZ
    go_enter Tryz.func19, Tryz.ntmps19
    go_wp2_with fail
    refine (implGoodLines_any a nl cl l _ hl).mono ?_
    rintro e w1 ⟨rfl, b1⟩
    rw [HGL.out]
    go_wp2_with fail
    refine (implGoodGroups_any b0 n c g _ (hg.below b1)).mono ?_
    rintro e w2 ⟨rfl, b2⟩
    rw [HGG.out]
    go_wp2_with fail
    refine (implGroupHunks_any a nl cl l b0 n c g _ (hl.below (b1.next b2)) hcl hnl (hg.below (b1.next b2))).mono ?_
    rintro e w3 ⟨v3, vs3, rfl, o3, b3⟩
    rw [hh.out] at o3 ⊢
    obtain ⟨A3, k3, rfl, hk3, _⟩ := o3.form HM.out
    go_wp2_with fail
    refine (implPatch_any a nl cl l A3 m k3 hs _ (hl.below ((b1.next b2).next b3)) hcl o3.hks hnl).mono ?_
    rintro e w4 ⟨v4, rfl, o4, b4⟩
    rw [HP.out]
    go_wp2
    go_ret3
    exact ⟨_, by rw [hf.out]; rfl, by rw [hf.out]; exact OwnV.nil_, ((b1.next b2).next b3).next b4⟩
  · have hf := Lib.hid (show applyG l g = (patchH l hs, 0, true) by rw [HZ.out, hp]; rfl)
    have HP := Lib.hid (show patchOf l hs = (patchH l hs, true) by unfold patchOf; rw [hp]; rfl)
    clear hp HZ
    go_enter Tryz.func19, Tryz.ntmps19
    go_wp2_with fail
    refine (implGoodLines_any a nl cl l _ hl).mono ?_
    rintro e w1 ⟨rfl, b1⟩
    rw [HGL.out]
    go_wp2_with fail
    refine (implGoodGroups_any b0 n c g _ (hg.below b1)).mono ?_
    rintro e w2 ⟨rfl, b2⟩
    rw [HGG.out]
    go_wp2_with fail
    refine (implGroupHunks_any a nl cl l b0 n c g _ (hl.below (b1.next b2)) hcl hnl (hg.below (b1.next b2))).mono ?_
    rintro e w3 ⟨v3, vs3, rfl, o3, b3⟩
    rw [hh.out] at o3 ⊢
    obtain ⟨A3, k3, rfl, hk3, _⟩ := o3.form HM.out
    go_wp2_with fail
    refine (implPatch_any a nl cl l A3 m k3 hs _ (hl.below ((b1.next b2).next b3)) hcl o3.hks hnl).mono ?_
    rintro e w4 ⟨v4, rfl, o4, b4⟩
    rw [HP.out] at o4 ⊢
    go_wp2
    go_ret3
    exact ⟨_, by rw [hf.out]; rfl, by rw [hf.out]; exact o4.more ((b1.next b2).next b3).size, ((b1.next b2).next b3).next b4⟩

end Go.Proofs.YtkamenidgkjodaaGreatDoor
