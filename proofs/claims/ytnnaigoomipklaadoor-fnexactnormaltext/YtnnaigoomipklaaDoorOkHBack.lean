/-
  BackHunks, the program's and the model's.
-/
import Derived.Test.YtnnaigoomipklaaDoorOkHPatch
import Derived.Test.YtnnaigoomipklaaDoorOkHApp
import Derived.Test.YtnnaigoomipklaaDoorOkHBases
set_option linter.unusedSimpArgs false
set_option linter.unusedVariables false
namespace Go.Proofs.YtnnaigoomipklaaDoor
open Go.RowKit M

theorem oldOf_nat (l : List ByteArray) (a g : Nat) (new : List ByteArray) : oldOf l ⟨(a : Int), (g : Int), new⟩ = seg l a (a + g) := by
  unfold oldOf
  dsimp only
  rw [Int.toNat_natCast, show ((a : Int) + (g : Int)).toNat = a + g from by omega]

set_option maxHeartbeats 400000 in
theorem goneOf_any (a : Option Addr) (nl cl : Nat) (b off at' go hi : Nat) (w : World) (k0 : w.cell? ⟨b, off, none⟩ = some (.int .i64 (at' : Int))) (k1 : w.cell? ⟨b, off + 1, none⟩ = some (.int .i64 (go : Int))) (hhi : hi = at' + go) (h1 : hi ≤ nl) (h2 : nl ≤ cl) (h3 : nl ≤ 1048576) :
    Calls Tryd.prog 97 #[.slice a nl cl, .pointer (some ⟨b, off, none⟩)] w fun e w' => e = .returned (.slice (cutA a hi at') (hi - at') (hi - at')) ∧ Drawn w w' := by
  have hwe : IntKind.i64.wrap ((at' : Int) + (go : Int)) = (hi : Int) := by rw [IntKind.wrap_i64]; omega
  have hcut := cut3_strs a nl cl at' hi (by omega) (by omega)
  clear hhi
  go_enter Tryd.func97, Tryd.ntmps97
  go_wp2
  go_quiet (fail)
  go_wp2
  go_ret
  exact ⟨rfl, (Drawn.refl _).more _⟩

set_option maxHeartbeats 2000000 in
set_option maxRecDepth 100000 in
theorem implBackHunks_any (a : Option Addr) (nl cl : Nat) (l : List ByteArray) (b0 : Option Addr) (n c : Nat) (hs : List Hk) (w : World) (hl : Strs w a nl l) (hcl : nl ≤ cl) (hh : Hks w b0 n hs) (hnl : nl ≤ 1048576) :
    Calls Tryd.prog 69 #[.slice a nl cl, .slice b0 n c] w fun e w' => ∃ v vs, e = .returned (.tuple #[v, .bool (backOf l hs).2]) ∧ OwnH w' w.heap.size v (backOf l hs).1 vs ∧ Below w.heap.size w w' := by
  have hpo := patchOf_ok l hs
  cases hq : patchOk l hs
  · have hf := Lib.hid (show backOf l hs = ([], false) from if_neg (by simp [hq]))
    rw [hq] at hpo
    go_enter Tryd.func69, Tryd.ntmps69
    go_wp2_with fail
    refine (implPatch_any a nl cl l b0 n c hs _ hl hcl hh hnl).mono ?_
    rintro e w1 ⟨v, rfl, o1, b1⟩
    rw [hpo]
    go_wp2
    go_ret2
    exact ⟨_, [], by rw [hf.out]; rfl, by rw [hf.out]; exact OwnH.nil_, b1⟩
  · have hf := Lib.hid (show backOf l hs = (backH l hs, true) from if_pos hq)
    have hg := (patchOk_parts hq).2.1
    rw [hq] at hpo
    have HL := Lib.hid hl.len
    have HN := Lib.hid hh.len
    have hn20 : n ≤ 20 := by rw [← HN.out]; exact (goodH_parts hg).2.2.1
    have hnl40 : nl ≤ 40 := by have := (goodH_parts hg).2.1; have := HL.out; omega
    have HR0 := Lib.hid (rest_start hg)
    clear hg hq
    go_enter Tryd.func69, Tryd.ntmps69
    go_wp2_with fail
    refine (implPatch_any a nl cl l b0 n c hs _ hl hcl hh hnl).mono ?_
    rintro e w1 ⟨v, rfl, o1, b1⟩
    rw [hpo]
    clear hpo o1
    obtain ⟨pv, Hpv⟩ : ∃ pv, Hid (pv = v) := ⟨_, rfl⟩
    go_wp2
    go_loopw [8, 9, 22] (fun v q i w' => ∃ j p : Nat, ∃ more : Int, ∃ out vs, i = .int .i64 j ∧ q = .int .i64 more ∧ j ≤ n ∧ -40 * (j : Int) ≤ more ∧ more ≤ 40 * (j : Int) ∧ OwnH w' w.heap.size v out vs ∧ Hid (out.length = j) ∧ Hid (restOk l.length (hs.drop j) p) ∧ Hid (out ++ backFrom l more (hs.drop j) = backH l hs) ∧ Below w.heap.size w w') (fun _ _ i _ => n - (intOf i).toNat)
    case atStart => exact ⟨0, 0, 0, [], [], rfl, rfl, by omega, by omega, by omega, OwnH.nil_, rfl, HR0.out, rfl, b1⟩
    case round =>
      obtain ⟨j, p, more, out, vs, rfl, rfl, hj, hm0, hm1, ho, HO, HR, HP, hb⟩ := hrel
      by_cases hlt : j < n
      · obtain ⟨b, off, A, m, c', x, rfl, hx, c0, c1, c2, hst, hmc, i0, i1⟩ := hh.at_ hlt
        obtain ⟨at', go, ea, eg, hpa, hag, hln, hno, hrest⟩ := rest_step hx HR.out
        have hstep := Lib.hid (back_step (l := l) (more := more) hx)
        obtain ⟨xa, xg, xn⟩ := x
        dsimp only at ea eg hln c0 c1 c2 hst i0 i1
        subst ea eg
        have k0 := cell_keep hb c0
        have k1 := cell_keep hb c1
        have k2 := cell_keep hb c2
        have hm40 : m ≤ 40 := by rw [← hst.len]; exact linesB_len hln
        have hag2 : at' + go ≤ nl := by rw [HL.out] at hag; omega
        have HREST := Lib.hid hrest
        have HM := Lib.hid hst.len
        clear hx hrest hag hln hno
        obtain ⟨hi, Hhi⟩ : ∃ hi : Nat, Hid (hi = at' + go) := ⟨_, rfl⟩
        have hih : at' ≤ hi ∧ hi ≤ nl := by have := Hhi.out; omega
        obtain ⟨hi0, hi1⟩ := hih
        have hwm : IntKind.i64.wrap ((at' : Int) + more) = (at' : Int) + more := by rw [IntKind.wrap_i64]; omega
        have hw2 : IntKind.i64.wrap ((m : Int) - (go : Int)) = (m : Int) - (go : Int) := by rw [IntKind.wrap_i64]; omega
        have hw3 : IntKind.i64.wrap (more + ((m : Int) - (go : Int))) = more + ((m : Int) - (go : Int)) := by rw [IntKind.wrap_i64]; omega
        have HOW := Lib.hid ho
        have HBB := Lib.hid hb
        have HC := Lib.hid (show w.cell? ⟨b, off + j * 3, none⟩ = some (.int .i64 (at' : Int)) ∧ w.cell? ⟨b, off + j * 3 + 1, none⟩ = some (.int .i64 (go : Int)) ∧ w.cell? ⟨b, off + j * 3 + 2, none⟩ = some (.slice A m c') from ⟨c0, c1, c2⟩)
        have HOK := Lib.hid (show i64ok ((at' : Int) + more) ∧ i64ok (m : Int) from ⟨⟨by omega, by omega⟩, ⟨by omega, by omega⟩⟩)
        clear ho c0 c1 c2
        go_wp2
        go_region_held3 (fun w' => w'.cell? ⟨b, off + j * 3, none⟩ = some (.int .i64 (at' : Int)) ∧ w'.cell? ⟨b, off + j * 3 + 1, none⟩ = some (.int .i64 (go : Int)) ∧ w'.cell? ⟨b, off + j * 3 + 2, none⟩ = some (.slice A m c')) (first | exact ⟨k0, k1, k2⟩ | exact ⟨cell_keep HB4.out HC.out.1, cell_keep HB4.out HC.out.2.1, cell_keep HB4.out HC.out.2.2⟩ | exact ⟨cell_keep HB5.out HC.out.1, cell_keep HB5.out HC.out.2.1, cell_keep HB5.out HC.out.2.2⟩ | exact ⟨cell_keep HB5a.out HC.out.1, cell_keep HB5a.out HC.out.2.1, cell_keep HB5a.out HC.out.2.2⟩ | exact ⟨cell_keep HB6.out HC.out.1, cell_keep HB6.out HC.out.2.1, cell_keep HB6.out HC.out.2.2⟩ | go_keep)
          (first
            | (go_at_call 97; refine (goneOf_any a nl cl b (off + j * 3) at' go hi _ (cell_keep HBB.out.drew HC.out.1) (cell_keep HBB.out.drew HC.out.2.1) Hhi.out hi1 hcl hnl).mono ?_; rintro e w4 ⟨rfl, d4⟩
               have HB4 := Lib.hid (HBB.out.drew.next d4.below))
            | (go_at_call 71; refine (copyOf_any _ _ _ (seg l at' hi) _ ((hl.below HB4.out).cut3 hi0 hi1) (by omega)).mono ?_; rintro e w5 ⟨v5, rfl, o5, b5⟩
               have HB5 := Lib.hid (HB4.out.next b5)
               obtain ⟨v5a, v5c, rfl, h51, h52⟩ := o5.form (show (seg l at' hi).length = go by rw [seg_len, HL.out]; have := Hhi.out; omega)
               have HB5a := Lib.hid (HB5.out.next (below_alloc w5 (.cells #[.int .i64 ((at' : Int) + more), .int .i64 (m : Int), .slice v5a go v5c] 73)))
               have HOW5 := Lib.hid ((HOW.out.below ((Below.refl _ _).drew.next d4.below)).below b5)
               have O5 := Lib.hid (o5.more (show w.heap.size ≤ w4.heap.size from HB4.out.size))
               have HF5 := Lib.hid (show ∀ g, (Value.slice v5a go v5c).ownBlock = some g → ¬ Blk u8 vs g from fun g e e2 => by
                 have h3 := (o5.lt e).1; have h4 := (HOW.out.lt e2).2; have h5 := d4.below.size; have h6 : wr.drew.heap.size = wr.heap.size := rfl; omega))
            | (refine step_hk (.tmp 28) (.tmp 45) w.heap.size u8 out vs (HOW5.out.below (below_alloc _ _)) ⟨(at' : Int) + more, (m : Int), seg l at' hi⟩ HOK.out (.slice v5a go v5c) (O5.out.below (below_alloc _ _)) HF5.out w5.heap.size (by simp) (by simp) (by simp) (by have := HO.out; omega) (Nat.le_trans HB5.out.size (by simp)) rfl rfl rfl rfl ?_; intro v6 w6 o6 g6 p6
               have HB6 := Lib.hid (Below.grown HB5a.out g6 (Nat.le_trans HB5.out.size (by simp)) (fun k e => (HOW.out.lt (.inl e)).1))))
        obtain ⟨kk0, kk1, kk2⟩ := (show w6.cell? ⟨b, off + j * 3, none⟩ = some (.int .i64 (at' : Int)) ∧ w6.cell? ⟨b, off + j * 3 + 1, none⟩ = some (.int .i64 (go : Int)) ∧ w6.cell? ⟨b, off + j * 3 + 2, none⟩ = some (.slice A m c') from ⟨cell_keep HB6.out HC.out.1, cell_keep HB6.out HC.out.2.1, cell_keep HB6.out HC.out.2.2⟩)
        have hR := Lib.hid (show out ++ [⟨(at' : Int) + more, (m : Int), seg l at' hi⟩] ++ backFrom l (more + ((m : Int) - go)) (hs.drop (j + 1)) = backH l hs by
          have h5 := hstep.out
          rw [HM.out, oldOf_nat] at h5
          rw [← HP.out, h5, Hhi.out]
          simp)
        clear k0 k1 k2 b5 o5 g6 p6 d4
        go_wp2
        go_quiet (fail)
        go_wp2
        go_roundw
        case rel => exact ⟨j + 1, at' + go, more + ((m : Int) - go), _, _, by go_num, rfl, by omega, by omega, by omega, o6.below (below_drewN (Below.refl _ _) _), show _ = _ by have := HO.out; simp; omega, HREST.out, hR.out, below_drewN HB6.out _⟩
        case measure => simp [intOf]; omega
      · have hfin := Lib.hid (back_end (l := l) (hs := hs) (more := more) (j := j) (by rw [HN.out]; omega))
        go_wp2
        go_ret2
        exact ⟨_, vs, by rw [hf.out]; rfl, by rw [hf.out]; show OwnH _ _ _ (backH l hs) _; rw [← HP.out, hfin.out, List.append_nil]; exact ho, hb⟩

end Go.Proofs.YtnnaigoomipklaaDoor
