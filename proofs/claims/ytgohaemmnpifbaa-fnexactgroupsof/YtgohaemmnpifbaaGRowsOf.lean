/-
  The rows of hunks: the program's rowsOf, howManyNear.
-/
import Derived.Test.YtgohaemmnpifbaaGAdd
import Derived.Test.YtgohaemmnpifbaaHPatch
import Derived.Test.YtgohaemmnpifbaaHApp
import Derived.BigQuiet
set_option linter.unusedSimpArgs false
set_option linter.unusedVariables false
namespace Go.Proofs.Ytgohaemmnpifbaa
open Go.RowKit Go.ChangeShapes Go.WideShapes M

set_option maxHeartbeats 400000 in
theorem goneOfG_any (a : Option Addr) (nl cl : Nat) (b off at' go hi : Nat) (w : World) (k0 : w.cell? ⟨b, off, none⟩ = some (.int .i64 (at' : Int))) (k1 : w.cell? ⟨b, off + 1, none⟩ = some (.int .i64 (go : Int))) (hhi : hi = at' + go) (h1 : hi ≤ nl) (h2 : nl ≤ cl) (h3 : nl ≤ 1048576) :
    Calls Try.prog 69 #[.slice a nl cl, .pointer (some ⟨b, off, none⟩)] w fun e w' => e = .returned (.slice (cutA a hi at') (hi - at') (hi - at')) ∧ Drawn w w' := by
  have hwe : IntKind.i64.wrap ((at' : Int) + (go : Int)) = (hi : Int) := by rw [IntKind.wrap_i64]; omega
  have hcut := cut3_strs a nl cl at' hi (by omega) (by omega)
  clear hhi
  go_enter Try.func69, Try.ntmps69
  go_wp2
  go_quiet (fail)
  go_wp2
  go_ret
  exact ⟨rfl, (Drawn.refl _).more _⟩

set_option maxHeartbeats 4000000 in
set_option maxRecDepth 100000 in
theorem rowsOf_any (a : Option Addr) (nl cl : Nat) (l : List ByteArray) (b0 : Option Addr) (n c : Nat) (hs : List Hk) (p0 : Nat) (w : World) (hl : Strs w a nl l) (hcl : nl ≤ cl) (hh : Hks w b0 n hs) (hr0 : restOk nl hs p0) (hp0 : p0 ≤ nl) (hnl : nl ≤ 40) (hn : n ≤ 20) :
    Calls Try.prog 44 #[.slice a nl cl, .slice b0 n c, .int .i64 (p0 : Int)] w fun e w' => ∃ v, e = .returned v ∧ OwnRw w' w.heap.size v (rowsI l p0 hs) ∧ Below w.heap.size w w' := by
  have HL := Lib.hid hl.len
  have HN := Lib.hid hh.len
  have HR0 := Lib.hid hr0
  clear hr0
  go_enter Try.func44, Try.ntmps44
  go_wp2
  go_loopw [2, 7, 12] (fun q lv i w' => ∃ (v : Value) (out : List Rw), ∃ j p : Nat, v = lv ∧ i = .int .i64 j ∧ q = .int .i64 (p : Int) ∧ j ≤ n ∧ p ≤ nl ∧ OwnRw w' w.heap.size v out ∧ Hid (out.length ≤ 120 * j) ∧ Hid (restOk nl (hs.drop j) p) ∧ Hid (out ++ rowsI l p (hs.drop j) = rowsI l p0 hs) ∧ Below w.heap.size w w') (fun _ _ i _ => n - (intOf i).toNat)
  case atStart => exact ⟨_, [], 0, p0, rfl, rfl, rfl, by omega, hp0, OwnRw.nil_, show _ ≤ _ by simp, HR0.out, rfl, Below.refl _ _⟩
  case round =>
    obtain ⟨v, out, j, p, rfl, rfl, rfl, hj, hp, ho, HO, HR, HP, hb⟩ := hrel
    by_cases hlt : j < n
    · obtain ⟨b, off, A, m, c', x, rfl, hx, c0, c1, c2, hst, hmc, i0, i1⟩ := hh.at_ hlt
      obtain ⟨at', go, ea, eg, hpa, hag, hln, hno, hrest⟩ := rest_step hx HR.out
      have hstep := Lib.hid (rowsI_step (l := l) (p := p) hx)
      obtain ⟨xa, xg, xn⟩ := x
      dsimp only at ea eg hln c0 c1 c2 hst i0 i1
      subst ea eg
      have hm40 : m ≤ 40 := by rw [← hst.len]; exact linesB_len hln
      have hag2 : at' + go ≤ nl := by omega
      obtain ⟨hi, Hhi⟩ : ∃ hi, Hid (hi = at' + go) := ⟨_, rfl⟩
      have hhn : hi ≤ nl := by rw [Hhi.out]; exact hag2
      have hah : at' ≤ hi := by rw [Hhi.out]; omega
      have HREST := Lib.hid (show restOk nl (hs.drop (j + 1)) hi by rw [Hhi.out]; exact hrest)
      have HM := Lib.hid hst.len
      have HST := Lib.hid hst
      have HC0 := Lib.hid c0
      have HC1 := Lib.hid c1
      have HC2 := Lib.hid c2
      have HHL := Lib.hid hl
      have hlen0 : out.length ≤ 2400 := by have := HO.out; omega
      clear hx hrest hag hln hno hag2 hst
      have hcut := cut_strs a nl cl p at' hpa (by omega)
      have hwe : IntKind.i64.wrap ((at' : Int) + (go : Int)) = (hi : Int) := by have h := Hhi.out; rw [IntKind.wrap_i64]; omega
      have d0 := cell_keep hb c0
      clear c0 c1 c2
      go_wp2_with fail
      refine (addRows_any v out 1 (cutA a cl p) (at' - p) (cl - p) w.heap.size (seg l p at') wr ho ⟨by decide, by decide⟩ (fun w' h => (HHL.out.below (hb.trans h)).cut hpa (by omega) hcl) hb.size (by omega)).mono ?_
      rintro e w1 ⟨v1, rfl, o1, b1⟩
      have B1 := Lib.hid (hb.trans b1)
      have L1 := Lib.hid (show (out ++ kR 1 (seg l p at')).length ≤ 2440 by rw [List.length_append, kR_len, seg_len]; omega)
      clear b1 d0
      go_wp2_with fail
      refine (goneOfG_any a nl cl b (off + j * 3) at' go hi _ (cell_keep B1.out HC0.out) (cell_keep B1.out HC1.out) Hhi.out hhn hcl (by omega)).mono ?_
      rintro e w2 ⟨rfl, d2⟩
      have B2 := Lib.hid (B1.out.next d2.below)
      have o2 := o1.below d2.below
      clear d2 o1
      go_wp2_with fail
      refine (addRows_any v1 (out ++ kR 1 (seg l p at')) 2 (cutA a hi at') (hi - at') (hi - at') w.heap.size (seg l at' hi) w2 o2 ⟨by decide, by decide⟩ (fun w' h => (HHL.out.below (B2.out.trans h)).cut3 hah hhn) B2.out.size (by have := L1.out; omega)).mono ?_
      rintro e w3 ⟨v3, rfl, o3, b3⟩
      have B3 := Lib.hid (B2.out.trans b3)
      have L3 := Lib.hid (show (out ++ kR 1 (seg l p at') ++ kR 2 (seg l at' hi)).length ≤ 2480 by rw [List.length_append, kR_len, seg_len]; have := L1.out; omega)
      have d2 := cell_keep B3.out HC2.out
      clear b3 o2
      go_wp2_with fail
      refine (addRows_any v3 (out ++ kR 1 (seg l p at') ++ kR 2 (seg l at' hi)) 3 A m c' w.heap.size xn w3 o3 ⟨by decide, by decide⟩ (fun w' h => HST.out.below (B3.out.trans h)) B3.out.size (by have := L3.out; omega)).mono ?_
      rintro e w4 ⟨v4, rfl, o4, b4⟩
      have B4 := Lib.hid (B3.out.trans b4)
      have k0 := cell_keep B4.out HC0.out
      have k1 := cell_keep B4.out HC1.out
      clear b4 o3 d2
      go_wp2
      go_quiet (fail)
      go_wp2
      go_roundw
      case rel => exact ⟨v4, out ++ kR 1 (seg l p at') ++ kR 2 (seg l at' hi) ++ kR 3 xn, j + 1, hi, rfl, by go_num, rfl, by omega, hhn, o4.below (below_drewN (Below.refl _ _) _), show _ ≤ _ by
          have := HO.out; simp only [List.length_append, kR_len, seg_len, HM.out]; omega, HREST.out, show _ = _ by
          have h5 := hstep.out
          try dsimp only at h5
          rw [Int.toNat_natCast, show ((at' : Int) + (go : Int)).toNat = hi from by rw [Hhi.out]; omega] at h5
          rw [← HP.out, h5]
          simp only [List.append_assoc], below_drewN B4.out _⟩
      case measure => simp [intOf]; omega
    · have hcut := cut_lo_strs a nl cl p hp hcl
      have hfin := Lib.hid (rowsI_end (l := l) (hs := hs) (p := p) (j := j) (by rw [HN.out]; omega))
      have HHL := Lib.hid hl
      have hlen0 : out.length ≤ 2400 := by have := HO.out; omega
      go_wp2_with fail
      refine (addRows_any v out 1 (cutA a cl p) (nl - p) (cl - p) w.heap.size (l.drop p) wr ho ⟨by decide, by decide⟩ (fun w' h => (HHL.out.below (hb.trans h)).drop_ hp hcl) hb.size (by omega)).mono ?_
      rintro e w1 ⟨v1, rfl, o1, b1⟩
      have B1 := Lib.hid (hb.trans b1)
      clear b1
      go_wp2
      go_ret
      exact ⟨v1, rfl, by rw [← HP.out, hfin.out]; exact o1, B1.out⟩

end Go.Proofs.Ytgohaemmnpifbaa
