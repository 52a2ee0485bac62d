/-
  NormalSteps, the model's.
-/
import Derived.Test.YtnnaigoomipklaaDoorOkSSteps
set_option linter.unusedSimpArgs false
set_option linter.unusedVariables false
namespace Go.Proofs.YtnnaigoomipklaaDoor
open Go.RowKit Go.ChangeShapes Go.WideShapes M

theorem oldOf_natS (l : List ByteArray) (a g : Nat) (new : List ByteArray) : oldOf l ⟨(a : Int), (g : Int), new⟩ = seg l a (a + g) := by
  unfold oldOf
  dsimp only
  rw [Int.toNat_natCast, show ((a : Int) + (g : Int)).toNat = a + g from by omega]

theorem size_alloc_le (w : World) (o : Obj) : w.heap.size ≤ (w.alloc o).heap.size := by simp
theorem size_alloc_lt (w : World) (o : Obj) : w.heap.size < (w.alloc o).heap.size := by simp
theorem alloc_ne {w : World} {o : Obj} (h : (w.alloc o).heap.size ≤ w.heap.size) : False := by simp at h; omega
theorem zero_cells {w : World} {k : Nat} (h : w.heap[k]? = some (.cells zeroSp 83 (0, 0))) : w.cell? ⟨k, 0, none⟩ = some (.int .i64 0) ∧ w.cell? ⟨k, 1, none⟩ = some (.int .i64 0) ∧ w.cell? ⟨k, 2, none⟩ = some (.slice none 0 0) ∧ w.cell? ⟨k, 3, none⟩ = some (.int .i64 0) ∧ w.cell? ⟨k, 4, none⟩ = some (.int .i64 0) ∧ w.cell? ⟨k, 5, none⟩ = some (.slice none 0 0) ∧ ∀ j, w.frozen? ⟨k, j, none⟩ = false := by
  refine ⟨by simp [World.cell?, h, zeroSp], by simp [World.cell?, h, zeroSp], by simp [World.cell?, h, zeroSp], by simp [World.cell?, h, zeroSp], by simp [World.cell?, h, zeroSp], by simp [World.cell?, h, zeroSp], fun j => by simp [World.frozen?, h]⟩
theorem cells_lt {w : World} {k : Nat} {o : Obj} (h : w.heap[k]? = some o) : k < w.heap.size := (Array.getElem?_eq_some_iff.1 h).1
theorem cell_1 {w : World} {p a : Addr} {u v : Value} (h : w.cell? a = some u) (hn : a.block ≠ p.block) : (w.setCell p v).cell? a = some u :=
  (World.cell?_of_block (Below.heap_setCell w p v a.block hn)).trans h
theorem cell_6 {w : World} {g h j : Nat} {u x0 x1 x2 x3 x4 x5 : Value} (k : w.cell? ⟨h, j, none⟩ = some u) (hn : h ≠ g) :
    ((((((w.setCell ⟨g, 0, none⟩ x0).setCell ⟨g, 1, none⟩ x1).setCell ⟨g, 2, none⟩ x2).setCell ⟨g, 3, none⟩ x3).setCell ⟨g, 4, none⟩ x4).setCell ⟨g, 5, none⟩ x5).cell? ⟨h, j, none⟩ = some u :=
  cell_1 (cell_1 (cell_1 (cell_1 (cell_1 (cell_1 k hn) hn) hn) hn) hn) hn

set_option maxHeartbeats 4000000 in
set_option maxRecDepth 100000 in
theorem l5Steps_any (a : Option Addr) (nl cl : Nat) (l : List ByteArray) (b0 : Option Addr) (n c : Nat) (hs : List Hk) (w : World) (hl : Strs w a nl l) (hcl : nl ≤ cl) (hh : Hks w b0 n hs) (hg : goodH l.length hs = true) :
    Calls Tryd.prog 68 #[.slice a nl cl, .slice b0 n c] w fun e w' => ∃ v vs, e = .returned v ∧ OwnSt w' w.heap.size v (normH l hs) vs ∧ Below w.heap.size w w' := by
  have HL := Lib.hid hl.len
  have HN := Lib.hid hh.len
  have hn20 : n ≤ 20 := by rw [← HN.out]; exact (goodH_parts hg).2.2.1
  have hnl40 : nl ≤ 40 := by have := (goodH_parts hg).2.1; have := HL.out; omega
  have HR0 := Lib.hid (rest_start hg)
  clear hg
  go_enter Tryd.func68, Tryd.ntmps68
  go_wp2
  go_loopw [5, 6, 14] (fun v q i w' => ∃ j p : Nat, ∃ more : Int, ∃ out vs, i = .int .i64 j ∧ q = .int .i64 more ∧ j ≤ n ∧ -40 * (j : Int) ≤ more ∧ more ≤ 40 * (j : Int) ∧ OwnSt w' w.heap.size v out vs ∧ Hid (out.length = j) ∧ Hid (restOk l.length (hs.drop j) p) ∧ Hid (out ++ normFrom l more (hs.drop j) = normH l hs) ∧ Below w.heap.size w w') (fun _ _ i _ => n - (intOf i).toNat)
  case atStart => exact ⟨0, 0, 0, [], [], rfl, rfl, by omega, by omega, by omega, OwnSt.nil_, rfl, HR0.out, rfl, Below.refl _ _⟩
  case round =>
    obtain ⟨j, p, more, out, vs, rfl, rfl, hj, hm0, hm1, ho, HO, HR, HP, hb⟩ := hrel
    by_cases hlt : j < n
    · obtain ⟨b, off, A, m, c', x, rfl, hx, c0, c1, c2, hst, hmc, i0, i1⟩ := hh.at_ hlt
      obtain ⟨at', go, ea, eg, hpa, hag, hln, hno, hrest⟩ := rest_step hx HR.out
      have hstep := Lib.hid (norm_step (l := l) (more := more) hx)
      obtain ⟨xa, xg, xn⟩ := x
      dsimp only at ea eg hln c0 c1 c2 hst i0 i1
      subst ea eg
      have c0 := cell_keep hb c0
      have c1 := cell_keep hb c1
      have c2 := cell_keep hb c2
      have hm40 : m ≤ 40 := by rw [← hst.len]; exact linesB_len hln
      have hag2 : at' + go ≤ nl := by rw [HL.out] at hag; omega
      have HREST := Lib.hid hrest
      have HM := Lib.hid hst.len
      clear hx hrest hag hln hno
      obtain ⟨hi, Hhi⟩ : ∃ hi : Nat, Hid (hi = at' + go) := ⟨_, rfl⟩
      have hih : at' ≤ hi ∧ hi ≤ nl := by have := Hhi.out; omega
      obtain ⟨hi0, hi1⟩ := hih
      have hcut := cut_strs a nl cl at' hi hi0 (by omega)
      have hwe : IntKind.i64.wrap ((at' : Int) + (go : Int)) = (hi : Int) := by rw [IntKind.wrap_i64]; have := Hhi.out; omega
      obtain ⟨am, Ham⟩ : ∃ am : Int, Hid (am = (at' : Int) + more) := ⟨_, rfl⟩
      have ham : -1000 ≤ am ∧ am ≤ 1000 := by have := Ham.out; omega
      obtain ⟨ham0, ham1⟩ := ham
      have hwm : IntKind.i64.wrap ((at' : Int) + more) = am := by rw [IntKind.wrap_i64]; have := Ham.out; omega
      have hwn : IntKind.i64.wrap (am + (m : Int)) = am + (m : Int) := by rw [IntKind.wrap_i64]; omega
      obtain ⟨W1, HW1⟩ : ∃ W1, Hid (W1 = wr.alloc (.cells #[.int .i64 (at' : Int), .int .i64 (go : Int), .slice A m c'] 73)) := ⟨_, rfl⟩
      have k0 : W1.cell? ⟨wr.heap.size, 0, none⟩ = some (.int .i64 (at' : Int)) := by rw [HW1.out]; simp
      have k1 : W1.cell? ⟨wr.heap.size, 1, none⟩ = some (.int .i64 (go : Int)) := by rw [HW1.out]; simp
      have k2 : W1.cell? ⟨wr.heap.size, 2, none⟩ = some (.slice A m c') := by rw [HW1.out]; simp
      have hB1 := Lib.hid (show Below wr.heap.size wr W1 by rw [HW1.out]; exact below_alloc _ _)
      have hsz1 := Lib.hid (show W1.heap.size = wr.heap.size + 1 by rw [HW1.out]; simp)
      have N1 := Lib.hid (show wr.heap.size ≠ W1.heap.size by have := hsz1.out; omega)
      have N2 := Lib.hid (show wr.heap.size < W1.heap.size by have := hsz1.out; omega)
      have HOW := Lib.hid ho
      have HBB := Lib.hid hb
      have HB1 := Lib.hid (HBB.out.next hB1.out)
      have HST := Lib.hid (hst.below HB1.out)
      have HLS := Lib.hid ((hl.below HB1.out).cut hi0 hi1 hcl)
      have HN0 : 0 ≤ numI (at' : Int) go ∧ numI (at' : Int) go ≤ 1001 := by unfold numI; split <;> omega
      have HN1 : -1001 ≤ numI am m ∧ numI am m ≤ 1001 := by unfold numI; split <;> omega
      have HOK := Lib.hid (show SpOk ⟨numI (at' : Int) go, (hi : Int), seg l at' hi, numI am m, am + (m : Int), xn⟩ from ⟨(show i64ok (numI (at' : Int) go) from ⟨by omega, by omega⟩), (show i64ok (hi : Int) from ⟨by omega, by omega⟩), (show i64ok (numI am m) from ⟨by omega, by omega⟩), (show i64ok (am + (m : Int)) from ⟨by omega, by omega⟩), HLS.out.small, hst.small⟩)
      have HOL := Lib.hid (show out.length ≤ 1048576 by have := HO.out; omega)
      have HUN := Lib.hid (show u5.ownBlock ≠ some wr.heap.size from fun e => by have := (ho.lt (g := wr.heap.size) (List.mem_append.2 (.inl (by simp [e])))).2; omega)
      have hR := Lib.hid (show out ++ [⟨numI (at' : Int) go, (hi : Int), seg l at' hi, numI am m, am + (m : Int), xn⟩] ++ normFrom l (more + ((m : Int) - go)) (hs.drop (j + 1)) = normH l hs by
        have h5 := hstep.out
        rw [HM.out] at h5
        have h6 : stepOf l more ⟨(at' : Int), (go : Int), xn⟩ = ⟨numI (at' : Int) go, (hi : Int), seg l at' hi, numI am m, am + (m : Int), xn⟩ := by
          unfold stepOf; dsimp only; rw [oldOf_natS, ← Hhi.out, HM.out, ← Ham.out, Int.toNat_natCast]
          have := Hhi.out
          congr 1
          omega
        rw [h6] at h5
        rw [← HP.out, h5]
        simp)
      clear ho hb hst HN0 HN1
      go_wp2
      rw [← HW1.out]
      clear c0 c1 c2
      go_region_held3 (fun w' => w'.cell? ⟨wr.heap.size, 0, none⟩ = some (.int .i64 (at' : Int)) ∧ w'.cell? ⟨wr.heap.size, 1, none⟩ = some (.int .i64 (go : Int)) ∧ w'.cell? ⟨wr.heap.size, 2, none⟩ = some (.slice A m c')) (first | with_reducible exact ⟨k0, k1, k2⟩ | with_reducible exact K6.out | with_reducible exact K5.out | with_reducible exact ⟨cell_keep (below_alloc W1 _) k0, cell_keep (below_alloc W1 _) k1, cell_keep (below_alloc W1 _) k2⟩ | with_reducible exact ⟨cell_keep (below_alloc w5 _) K5.out.1, cell_keep (below_alloc w5 _) K5.out.2.1, cell_keep (below_alloc w5 _) K5.out.2.2⟩ | with_reducible exact ⟨cell_keep (below_alloc w6 _) K6.out.1, cell_keep (below_alloc w6 _) K6.out.2.1, cell_keep (below_alloc w6 _) K6.out.2.2⟩ | with_reducible exact ⟨cell_6 K6.out.1 N6.out, cell_6 K6.out.2.1 N6.out, cell_6 K6.out.2.2 N6.out⟩ | go_keep)
        (first
          | (go_at_call 95; with_reducible show Calls _ _ #[.int .i64 (at' : Int), .int .i64 (go : Int)] _ _; refine (l4NumberI_any (at' : Int) go (by omega) (by omega) _).mono ?_; rintro e w9 ⟨rfl, rfl⟩)
          | (go_at_call 95; with_reducible show Calls _ _ #[.int .i64 am, .int .i64 (m : Int)] _ _; refine (l4NumberI_any am m (by omega) (by omega) _).mono ?_; rintro e w9 ⟨rfl, rfl⟩)
          | (go_at_call 96; with_reducible show Calls _ _ #[.slice A m c'] _ _; refine (l1OwnT_any A m c' xn _ (by first | exact HST.out.below B15.out | exact HST.out.below (B15.out.next (below_alloc w5 _))) (by omega)).mono ?_; rintro e w6 ⟨v6, rfl, o6, b6⟩
             obtain ⟨v6a, v6c, rfl, h61, h62⟩ := o6.form HM.out
             first
               | (have B56 := Lib.hid (show Below w5.heap.size w5 w6 from b6)
                  have O6 := Lib.hid (show OwnV w6 w5.heap.size (.slice v6a m v6c) xn from o6)
                  have Z6 := Lib.hid (show w6.heap[W1.heap.size]? = some (.cells zeroSp 83 (0, 0)) from (b6.block _ (cells_lt Z5.out)).trans Z5.out)
                  have N6 := Lib.hid N1.out
                  obtain ⟨z0, z1, z2, z3, z4, z5, zf⟩ := zero_cells Z6.out)
               | (have B56 := Lib.hid (show Below w5.heap.size w5 w6 from b6)
                  have O6 := Lib.hid (show OwnV w6 w5.heap.size (.slice v6a m v6c) xn from o6))
               | (have B56 := Lib.hid (show Below w5.heap.size w5 w6 from (below_alloc w5 _).next b6)
                  have O6 := Lib.hid (show OwnV w6 w5.heap.size (.slice v6a m v6c) xn from o6.more (size_alloc_le w5 _))
                  have M6 := Lib.hid (show (Value.slice v6a m v6c).ownBlock ≠ some w5.heap.size from fun e => alloc_ne (o6.lt e).1)
                  have Z6 := Lib.hid (show w6.heap[w5.heap.size]? = some (.cells zeroSp 83 (0, 0)) from (b6.block _ (size_alloc_lt w5 _)).trans (heap_alloc_new w5 _))
                  have N6 := Lib.hid (show wr.heap.size ≠ w5.heap.size from Nat.ne_of_lt (Nat.lt_of_lt_of_le N2.out B15.out.size))
                  obtain ⟨z0, z1, z2, z3, z4, z5, zf⟩ := zero_cells Z6.out)
             have K6 := Lib.hid (show w6.cell? ⟨wr.heap.size, 0, none⟩ = some (.int .i64 (at' : Int)) ∧ w6.cell? ⟨wr.heap.size, 1, none⟩ = some (.int .i64 (go : Int)) ∧ w6.cell? ⟨wr.heap.size, 2, none⟩ = some (.slice A m c') from ⟨cell_keep B56.out K5.out.1, cell_keep B56.out K5.out.2.1, cell_keep B56.out K5.out.2.2⟩)
             clear o6 b6)
          | (go_at_call 96; refine (l1OwnT_any (cutA a cl at') (hi - at') (cl - at') (seg l at' hi) _ (by first | exact HLS.out.below (Below.refl _ W1).drew | exact HLS.out.below (below_alloc W1 _).drew) (by omega)).mono ?_; rintro e w5 ⟨v5, rfl, o5, b5⟩
             obtain ⟨v5a, v5c, rfl, h51, h52⟩ := o5.form (show (seg l at' hi).length = go by rw [seg_len, HL.out]; have := Hhi.out; omega)
             first
               | (have B15 := Lib.hid (show Below W1.heap.size W1 w5 from (Below.refl _ W1).drew.next b5)
                  have O5 := Lib.hid (show OwnV w5 W1.heap.size (.slice v5a go v5c) (seg l at' hi) from o5))
               | (have B15 := Lib.hid (show Below W1.heap.size W1 w5 from (below_alloc W1 _).drew.next b5)
                  have O5 := Lib.hid (show OwnV w5 W1.heap.size (.slice v5a go v5c) (seg l at' hi) from o5.more (size_alloc_le W1 _))
                  have N5 := Lib.hid (show (Value.slice v5a go v5c).ownBlock ≠ some W1.heap.size from fun e => alloc_ne (o5.lt e).1)
                  have Z5 := Lib.hid (show w5.heap[W1.heap.size]? = some (.cells zeroSp 83 (0, 0)) from (b5.block _ (size_alloc_lt W1 _)).trans (heap_alloc_new W1 _)))
             have K5 := Lib.hid (show w5.cell? ⟨wr.heap.size, 0, none⟩ = some (.int .i64 (at' : Int)) ∧ w5.cell? ⟨wr.heap.size, 1, none⟩ = some (.int .i64 (go : Int)) ∧ w5.cell? ⟨wr.heap.size, 2, none⟩ = some (.slice A m c') from ⟨cell_keep B15.out k0, cell_keep B15.out k1, cell_keep B15.out k2⟩)
             clear o5 b5)
          | fail)
      all_goals have P1 := Lib.hid (((HOW.out.below hB1.out).below B15.out).below B56.out)
      all_goals have P2 := Lib.hid ((O5.out.more HB1.out.size).below B56.out)
      all_goals have P3 := Lib.hid (O6.out.more (Nat.le_trans HB1.out.size B15.out.size))
      all_goals have P4 := Lib.hid ((HB1.out.next B15.out).next B56.out)
      all_goals have P5 := Lib.hid K6.out.2.1
      all_goals have HF5 := Lib.hid (show ∀ g, (Value.slice v5a go v5c).ownBlock = some g → ¬ BlkR u5 vs g from fun g e e2 => by
        have h3 := (O5.out.lt e).1; have h4 := (HOW.out.lt e2).2; have h5 := hsz1.out; omega)
      all_goals have HF6 := Lib.hid (show ∀ g, (Value.slice v6a m v6c).ownBlock = some g → ¬ BlkR u5 vs g from fun g e e2 => by
        have h3 := (O6.out.lt e).1; have h4 := (HOW.out.lt e2).2; have h5 := hsz1.out; have h6 := B15.out.size; omega)
      all_goals have HNE := Lib.hid (show ∀ g, (Value.slice v5a go v5c).ownBlock = some g → (Value.slice v6a m v6c).ownBlock ≠ some g from fun g e e2 => by
        have h3 := (O5.out.lt e).2; have h4 := (O6.out.lt e2).1; omega)
      all_goals first
        | (obtain ⟨gb, HGB⟩ : ∃ gb, Hid (gb = w6.heap.size) := ⟨_, rfl⟩
           obtain ⟨W7, HW7⟩ : ∃ W7, Hid (W7 = w6.alloc (.cells #[.int .i64 (numI (at' : Int) go), .int .i64 (hi : Int), .slice v5a go v5c, .int .i64 (numI am m), .int .i64 (am + (m : Int)), .slice v6a m v6c] 83)) := ⟨_, rfl⟩
           have LD := Lib.hid (show Laid w W7 w.heap.size gb wr.heap.size (go : Int) u5 out vs ⟨numI (at' : Int) go, (hi : Int), seg l at' hi, numI am m, am + (m : Int), xn⟩ (.slice v5a go v5c) (.slice v6a m v6c) by
             rw [HW7.out, HGB.out]
             exact laid_last ⟨numI (at' : Int) go, (hi : Int), seg l at' hi, numI am m, am + (m : Int), xn⟩ P1.out P2.out P3.out P4.out P5.out)
           rw [← HW7.out, ← HGB.out])
        | (obtain ⟨gb, HGB⟩ : ∃ gb, Hid (gb = w5.heap.size) := ⟨_, rfl⟩
           obtain ⟨W7, HW7⟩ : ∃ W7, Hid (W7 = (((((w6.setCell ⟨w5.heap.size, 0, none⟩ (.int .i64 (numI (at' : Int) go))).setCell ⟨w5.heap.size, 1, none⟩ (.int .i64 (hi : Int))).setCell ⟨w5.heap.size, 2, none⟩ (.slice v5a go v5c)).setCell ⟨w5.heap.size, 3, none⟩ (.int .i64 (numI am m))).setCell ⟨w5.heap.size, 4, none⟩ (.int .i64 (am + (m : Int)))).setCell ⟨w5.heap.size, 5, none⟩ (.slice v6a m v6c)) := ⟨_, rfl⟩
           have LD := Lib.hid (show Laid w W7 w.heap.size gb wr.heap.size (go : Int) u5 out vs ⟨numI (at' : Int) go, (hi : Int), seg l at' hi, numI am m, am + (m : Int), xn⟩ (.slice v5a go v5c) (.slice v6a m v6c) by
             rw [HW7.out, HGB.out]
             exact laid_set ⟨numI (at' : Int) go, (hi : Int), seg l at' hi, numI am m, am + (m : Int), xn⟩ Z6.out P1.out P2.out P3.out P4.out P5.out (fun e => by have h1 := (HOW.out.lt e).2; have h2 := B15.out.size; have h3 := hsz1.out; omega) (fun e => by have h1 := (O5.out.lt e).2; omega) M6.out (Nat.le_trans HB1.out.size B15.out.size) N6.out.symm)
           rw [← HW7.out, ← HGB.out])
        | (obtain ⟨gb, HGB⟩ : ∃ gb, Hid (gb = W1.heap.size) := ⟨_, rfl⟩
           obtain ⟨W7, HW7⟩ : ∃ W7, Hid (W7 = (((((w6.setCell ⟨W1.heap.size, 0, none⟩ (.int .i64 (numI (at' : Int) go))).setCell ⟨W1.heap.size, 1, none⟩ (.int .i64 (hi : Int))).setCell ⟨W1.heap.size, 2, none⟩ (.slice v5a go v5c)).setCell ⟨W1.heap.size, 3, none⟩ (.int .i64 (numI am m))).setCell ⟨W1.heap.size, 4, none⟩ (.int .i64 (am + (m : Int)))).setCell ⟨W1.heap.size, 5, none⟩ (.slice v6a m v6c)) := ⟨_, rfl⟩
           have LD := Lib.hid (show Laid w W7 w.heap.size gb wr.heap.size (go : Int) u5 out vs ⟨numI (at' : Int) go, (hi : Int), seg l at' hi, numI am m, am + (m : Int), xn⟩ (.slice v5a go v5c) (.slice v6a m v6c) by
             rw [HW7.out, HGB.out]
             exact laid_set ⟨numI (at' : Int) go, (hi : Int), seg l at' hi, numI am m, am + (m : Int), xn⟩ Z6.out P1.out P2.out P3.out P4.out P5.out (fun e => by have h1 := (HOW.out.lt e).2; have h3 := hsz1.out; omega) N5.out (fun e => by have h1 := (O6.out.lt e).1; have h2 := cells_lt Z5.out; omega) HB1.out.size N6.out.symm)
           rw [← HW7.out, ← HGB.out])
      all_goals
        have m0 := LD.out.c0
        have m1 := LD.out.c1
        have m2 := LD.out.c2
        have m3 := LD.out.c3
        have m4 := LD.out.c4
        have m5 := LD.out.c5
        have HB7 := Lib.hid LD.out.low
        clear k0 k1 k2
        go_wp2_with (first
          | (at_builtin; refine wpList_sp (.tmp 55) (.tmp 57) w.heap.size u5 out vs (LD.out.own.below (below_alloc _ _)) ⟨numI (at' : Int) go, (hi : Int), seg l at' hi, numI am m, am + (m : Int), xn⟩ HOK.out (.slice v5a go v5c) (.slice v6a m v6c) (LD.out.o5.below (below_alloc _ _)) (LD.out.o6.below (below_alloc _ _)) HF5.out HF6.out HNE.out W7.heap.size (by simp) (by simp) (by simp) (by simp) (by simp) (by simp) HOL.out (Nat.le_trans HB7.out.size (by simp)) rfl rfl rfl rfl ?_
             intro v8 w8 o8 g8 p8
             have HB8 := Lib.hid (Below.grown (HB7.out.next (below_alloc _ _)) g8 (Nat.le_trans HB7.out.size (by simp)) (fun k e => (HOW.out.lt (g := k) (List.mem_append.2 (.inl (by simp [e])))).1))
             have mg := g8.cell (cell_keep (below_alloc W7 _) LD.out.gone) (fun e => HUN.out e.symm))
          | fail)
        go_roundw
        case rel => exact ⟨j + 1, at' + go, more + ((m : Int) - go), _, _, by go_num, rfl, by omega, by omega, by omega, o8, Lib.hid (by have := HO.out; simp; omega), HREST, hR, HB8.out⟩
        case measure => simp [intOf]; omega
    · have hfin := Lib.hid (norm_end (l := l) (hs := hs) (more := more) (j := j) (by rw [HN.out]; omega))
      go_wp2
      go_ret
      exact ⟨_, vs, rfl, by rw [← HP.out, hfin.out, List.append_nil]; exact ho, hb⟩

set_option maxHeartbeats 1000000 in
theorem specNormalSteps_any (a : Option Addr) (nl cl : Nat) (l : List ByteArray) (b0 : Option Addr) (n c : Nat) (hs : List Hk) (w : World) (hl : Strs w a nl l) (hcl : nl ≤ cl) (hh : Hks w b0 n hs) (hnew : ∀ x ∈ hs, x.new.length ≤ 1048576) (hnl : nl ≤ 1048576) :
    Calls Tryd.prog 42 #[.slice a nl cl, .slice b0 n c] w fun e w' => ∃ v vs, e = .returned (.tuple #[v, .bool (normOf l hs).2]) ∧ OwnSt w' w.heap.size v (normOf l hs).1 vs ∧ Below w.heap.size w w' := by
  have hpo := patchOf_ok l hs
  cases hq : patchOk l hs
  · have hf := Lib.hid (show normOf l hs = ([], false) from if_neg (by simp [hq]))
    rw [hq] at hpo
    go_enter Tryd.func42, Tryd.ntmps42
    go_wp2_with fail
    refine (specPatch_any a nl cl l b0 n c hs _ hl hcl hh hnew hnl).mono ?_
    rintro e w1 ⟨v, rfl, o1, b1⟩
    rw [hpo]
    go_wp2
    go_ret2
    exact ⟨_, [], by rw [hf.out]; rfl, by rw [hf.out]; exact OwnSt.nil_, b1⟩
  · have hf := Lib.hid (show normOf l hs = (normH l hs, true) from if_pos hq)
    have hg := (patchOk_parts hq).2.1
    rw [hq] at hpo
    go_enter Tryd.func42, Tryd.ntmps42
    go_wp2_with fail
    refine (specPatch_any a nl cl l b0 n c hs _ hl hcl hh hnew hnl).mono ?_
    rintro e w1 ⟨v, rfl, o1, b1⟩
    rw [hpo]
    go_wp2_with fail
    refine (l5Steps_any a nl cl l b0 n c hs _ (hl.below b1) hcl (hh.below b1) hg).mono ?_
    rintro e w2 ⟨v2, vs2, rfl, o2, b2⟩
    go_wp2
    go_ret2
    exact ⟨_, vs2, by rw [hf.out]; rfl, by rw [hf.out]; exact o2.more b1.size, b1.next b2⟩

end Go.Proofs.YtnnaigoomipklaaDoor
