/-
  TrimHunks of the program.
-/
import Derived.Test.YtaajldodobclaaaHTrim
set_option linter.unusedSimpArgs false
set_option linter.unusedVariables false
namespace Go.Proofs.Ytaajldodobclaaa
open Go.RowKit M

set_option maxHeartbeats 400000 in
theorem specTrimHunks_any (a : Option Addr) (nl cl : Nat) (l : List ByteArray) (b0 : Option Addr) (n c : Nat) (hs : List Hk) (w : World) (hl : Strs w a nl l) (hcl : nl ≤ cl) (hh : Hks w b0 n hs) (hnew : ∀ x ∈ hs, x.new.length ≤ 1048576) (hnl : nl ≤ 1048576) :
    Calls Try.prog 32 #[.slice a nl cl, .slice b0 n c] w fun e w' => ∃ v vs, e = .returned (.tuple #[v, .bool (trimOf l hs).2]) ∧ OwnH w' w.heap.size v (trimOf l hs).1 vs ∧ Below w.heap.size w w' := by
  have hpo := patchOf_ok l hs
  cases hq : patchOk l hs
  · have hf := Lib.hid (show trimOf l hs = ([], false) from if_neg (by simp [hq]))
    rw [hq] at hpo
    go_enter Try.func32, Try.ntmps32
    go_wp2_with fail
    refine (specPatch_any a nl cl l b0 n c hs _ hl hcl hh hnew hnl).mono ?_
    rintro e w1 ⟨v, rfl, o1, b1⟩
    rw [hpo]
    go_wp2
    go_ret2
    exact ⟨_, [], by rw [hf.out]; rfl, by rw [hf.out]; exact OwnH.nil_, b1⟩
  · have hf := Lib.hid (show trimOf l hs = (trimH l hs, true) from if_pos hq)
    have hg := (patchOk_parts hq).2.1
    rw [hq] at hpo
    go_enter Try.func32, Try.ntmps32
    go_wp2_with fail
    refine (specPatch_any a nl cl l b0 n c hs _ hl hcl hh hnew hnl).mono ?_
    rintro e w1 ⟨v, rfl, o1, b1⟩
    rw [hpo]
    go_wp2_with fail
    refine (l2Trim_any a nl cl l b0 n c hs _ (hl.below b1) hcl (hh.below b1) hg).mono ?_
    rintro e w2 ⟨v2, vs2, rfl, o2, b2⟩
    go_wp2
    go_ret2
    exact ⟨_, vs2, by rw [hf.out]; rfl, by rw [hf.out]; exact o2.more b1.size, b1.next b2⟩

set_option maxHeartbeats 4000000 in
set_option maxRecDepth 100000 in
theorem trimmed_any (a : Option Addr) (nl cl : Nat) (l : List ByteArray) (b off : Nat) (at' go : Nat) (A : Option Addr) (m c' : Nat) (xn : List ByteArray) (w : World) (hl : Strs w a nl l) (hcl : nl ≤ cl) (hnl40 : nl ≤ 40)
    (c0 : w.cell? ⟨b, off, none⟩ = some (.int .i64 (at' : Int))) (c1 : w.cell? ⟨b, off + 1, none⟩ = some (.int .i64 (go : Int))) (c2 : w.cell? ⟨b, off + 2, none⟩ = some (.slice A m c')) (hst : Strs w A m xn) (hmc : m ≤ c') (hm40 : m ≤ 40)
    (hag2 : at' + go ≤ nl) (hgl : goodB l = true) (hgx : goodB xn = true) :
    Calls Try.prog 68 #[.slice a nl cl, .pointer (some ⟨b, off, none⟩)] w fun e w' => ∃ v5a q v5c, e = .returned (.agg #[.int .i64 (trimOne l ⟨(at' : Int), (go : Int), xn⟩).at_, .int .i64 (trimOne l ⟨(at' : Int), (go : Int), xn⟩).gone, .slice v5a q v5c]) ∧ q ≤ v5c ∧ i64ok (trimOne l ⟨(at' : Int), (go : Int), xn⟩).at_ ∧ i64ok (trimOne l ⟨(at' : Int), (go : Int), xn⟩).gone ∧ OwnV w' w.heap.size (.slice v5a q v5c) (trimOne l ⟨(at' : Int), (go : Int), xn⟩).new ∧ Below w.heap.size w w' := by
  have HL := Lib.hid hl.len
  have HM := Lib.hid hst.len
  obtain ⟨hi, Hhi⟩ : ∃ hi : Nat, Hid (hi = at' + go) := ⟨_, rfl⟩
  have hih : at' ≤ hi ∧ hi ≤ nl := by have := Hhi.out; omega
  obtain ⟨hi0, hi1⟩ := hih
  obtain ⟨old, Hold⟩ : ∃ old, Hid (old = seg l at' hi) := ⟨_, rfl⟩
  have hlen : old.length = hi - at' := by rw [Hold.out, seg_len, HL.out]; omega
  have hgo : goodB old = true := by rw [Hold.out]; exact goodB_seg hgl _ _
  have HSA := Lib.hid (show sameAhead old xn = (aheadT old xn, true) by simp [sameAhead, hgo, hgx])
  have HSB := Lib.hid (show sameBehind old xn = (behindT old xn, true) by simp [sameBehind, hgo, hgx])
  obtain ⟨na, Hna⟩ : ∃ na, Hid (na = aheadT old xn) := ⟨_, rfl⟩
  obtain ⟨nb, Hnb⟩ : ∃ nb, Hid (nb = behindT old xn) := ⟨_, rfl⟩
  have hle := behind_le old xn
  rw [← Hna.out, ← Hnb.out, hlen, HM.out] at hle
  obtain ⟨hle1, hle2⟩ := hle
  have HLEN := Lib.hid hlen
  clear hlen hgo hgl hgx
  have HT := Lib.hid (trim_nat (l := l) (xn := xn) (na := na) (nb := nb) Hhi.out HM.out (by rw [← Hold.out]; exact Hna.out) (by rw [← Hold.out]; exact Hnb.out))
  obtain ⟨h2, Hh2⟩ : ∃ h2 : Nat, Hid (h2 = m - nb) := ⟨_, rfl⟩
  have hh2 : na ≤ h2 ∧ h2 ≤ m := by have := Hh2.out; omega
  obtain ⟨hh20, hh21⟩ := hh2
  obtain ⟨q, Hq⟩ : ∃ q : Nat, Hid (q = h2 - na) := ⟨_, rfl⟩
  have hqm : q ≤ 40 := by have := Hq.out; omega
  have hcut2 := cut_strs A m c' na h2 hh20 (by omega)
  have hw1 : IntKind.i64.wrap ((at' : Int) + (na : Int)) = (at' : Int) + (na : Int) := by rw [IntKind.wrap_i64]; omega
  have hw2 : IntKind.i64.wrap ((go : Int) - (na : Int)) = (go : Int) - (na : Int) := by rw [IntKind.wrap_i64]; omega
  have hw3 : IntKind.i64.wrap ((go : Int) - (na : Int) - (nb : Int)) = (go : Int) - (na : Int) - (nb : Int) := by rw [IntKind.wrap_i64]; omega
  have hw4 : IntKind.i64.wrap ((m : Int) - (nb : Int)) = (h2 : Int) := by rw [IntKind.wrap_i64]; have := Hh2.out; omega
  have HOK := Lib.hid (show i64ok ((at' : Int) + na) ∧ i64ok ((go : Int) - na - nb) from ⟨⟨by omega, by omega⟩, ⟨by omega, by omega⟩⟩)
  rw [HT.out]
  dsimp only
  have HC := Lib.hid (show w.cell? ⟨b, off, none⟩ = some (.int .i64 (at' : Int)) ∧ w.cell? ⟨b, off + 1, none⟩ = some (.int .i64 (go : Int)) ∧ w.cell? ⟨b, off + 2, none⟩ = some (.slice A m c') from ⟨c0, c1, c2⟩)
  obtain ⟨W1, HW1⟩ : ∃ W1, Hid (W1 = w.alloc (.cells #[.int .i64 0, .int .i64 0, .slice none 0 0] 63)) := ⟨_, rfl⟩
  have HB1 := Lib.hid (show Below w.heap.size w W1 by rw [HW1.out]; exact below_alloc _ _)
  have hz1 := Lib.hid (show W1.heap[w.heap.size]? = some (.cells #[.int .i64 0, .int .i64 0, .slice none 0 0] 63 (0, 0)) by rw [HW1.out]; exact heap_alloc_new w _)
  have hsz1 := Lib.hid (show W1.heap.size = w.heap.size + 1 by rw [HW1.out]; simp)
  go_enter Try.func68, Try.ntmps68
  go_wp2_with fail
  rw [← HW1.out]
  refine (goneOf_any a nl cl b off at' go hi _ (cell_keep HB1.out c0) (cell_keep HB1.out c1) Hhi.out hi1 hcl (by omega)).mono ?_
  rintro e w2 ⟨rfl, d2⟩
  have HB2 := Lib.hid (HB1.out.next d2.below)
  have k22 := cell_keep HB2.out HC.out.2.2
  go_wp2_with fail
  refine (implSameAhead_any _ A _ m _ c' old xn _ (by rw [Hold.out]; exact (hl.below HB2.out).cut3 hi0 hi1) (hst.below HB2.out)).mono ?_
  rintro e w3 ⟨rfl, b3⟩
  rw [HSA.out]
  dsimp only
  rw [← Hna.out]
  have HB3 := Lib.hid (HB2.out.next b3)
  have k32 := cell_keep HB3.out HC.out.2.2
  go_wp2_with fail
  refine (implSameBehind_any _ A _ m _ c' old xn _ (by rw [Hold.out]; exact (hl.below HB3.out).cut3 hi0 hi1) (hst.below HB3.out)).mono ?_
  rintro e w4 ⟨rfl, b4⟩
  rw [HSB.out]
  dsimp only
  rw [← Hnb.out]
  have HB4 := Lib.hid (HB3.out.next b4)
  have HB14 := Lib.hid ((d2.below.next b3).next b4)
  have hz4 := Lib.hid (show w4.heap[w.heap.size]? = some (.cells #[.int .i64 0, .int .i64 0, .slice none 0 0] 63 (0, 0)) from (HB14.out.block _ (by have := hsz1.out; omega)).trans hz1.out)
  have hsz4 := Lib.hid (show w.heap.size + 1 ≤ w4.heap.size by have h5 := hsz1.out; have h6 := HB14.out.size; omega)
  have k40 := cell_keep HB4.out HC.out.1
  have k41 := cell_keep HB4.out HC.out.2.1
  have k42 := cell_keep HB4.out HC.out.2.2
  have z40 : w4.cell? ⟨w.heap.size, 0, none⟩ = some (.int .i64 0) := by simp [World.cell?, hz4.out]
  have z41 : w4.cell? ⟨w.heap.size, 1, none⟩ = some (.int .i64 0) := by simp [World.cell?, hz4.out]
  have z42 : w4.cell? ⟨w.heap.size, 2, none⟩ = some (.slice none 0 0) := by simp [World.cell?, hz4.out]
  have zf4 : ∀ j, w4.frozen? ⟨w.heap.size, j, none⟩ = false := fun j => by simp [World.frozen?, hz4.out]
  have hbn : b ≠ w.heap.size := by have := cell_lt c0; simp at this; omega
  clear k22 k32 d2 b3 b4 c0 c1 c2
  go_wp2
  go_region_held3 (fun w' => w'.cell? ⟨b, off, none⟩ = some (.int .i64 (at' : Int)) ∧ w'.cell? ⟨b, off + 1, none⟩ = some (.int .i64 (go : Int)) ∧ w'.cell? ⟨b, off + 2, none⟩ = some (.slice A m c')) (first | exact ⟨k40, k41, k42⟩ | exact ⟨cell_keep b5 k40, cell_keep b5 k41, cell_keep b5 k42⟩ | exact ⟨cell_off (cell_off (cell_off (cell_keep b5 k40) hbn) hbn) hbn, cell_off (cell_off (cell_off (cell_keep b5 k41) hbn) hbn) hbn, cell_off (cell_off (cell_off (cell_keep b5 k42) hbn) hbn) hbn⟩ | go_keep)
    (first
      | (go_at_call 54; refine (copyOf_any _ _ _ (seg xn na h2) w4.drew ((hst.below HB4.out.drew).cut hh20 hh21 hmc) (by omega)).mono ?_; rintro e w5 ⟨v5, rfl, o5, b5⟩
         have z5 : w5.heap[w.heap.size]? = some (.cells #[.int .i64 0, .int .i64 0, .slice none 0 0] 63 (0, 0)) := (b5.block _ (by show _ < w4.heap.size; have := hsz4.out; omega)).trans hz4.out
         have z0 : w5.cell? ⟨w.heap.size, 0, none⟩ = some (.int .i64 0) := by simp [World.cell?, z5]
         have z1 : w5.cell? ⟨w.heap.size, 1, none⟩ = some (.int .i64 0) := by simp [World.cell?, z5]
         have z2 : w5.cell? ⟨w.heap.size, 2, none⟩ = some (.slice none 0 0) := by simp [World.cell?, z5]
         have zf : ∀ j, w5.frozen? ⟨w.heap.size, j, none⟩ = false := fun j => by simp [World.frozen?, z5]
         obtain ⟨v5a, v5c, rfl, h51, h52⟩ := o5.form (show (seg xn na h2).length = q by rw [seg_len, HM.out, Hq.out]; omega))
      | fail)
  go_wp2
  (try simp only [Exit.inBlock, Exit.then])
  refine bodyPost_ret (v := .agg #[.int .i64 ((at' : Int) + na), .int .i64 ((go : Int) - na - nb), .slice v5a q v5c]) (by simp [results, Try.results68, go_sem, z0, z1, z2]) rfl ?_
  refine ⟨v5a, q, v5c, rfl, h51, HOK.out.1, HOK.out.2, ?_, ?_⟩
  · rw [Hh2.out] at o5
    have hs5 := hsz4.out
    exact (((o5.setBelow (by show _ < w4.heap.size; simp; omega) _).setBelow (by show _ < w4.heap.size; simp; omega) _).setBelow (by show _ < w4.heap.size; simp; omega) _).more HB4.out.size
  · exact (((HB4.out.drew.next b5).setCell (by simp) _).setCell (by simp) _).setCell (by simp) _

end Go.Proofs.Ytaajldodobclaaa
