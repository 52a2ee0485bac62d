/-
  One group: the model's l6One.
-/
import Derived.Test.YtgohaemmnpifbaaGOne
import Derived.Test.YtgohaemmnpifbaaGSpan2
import Derived.Deep.DeepCutAuto
set_option linter.unusedSimpArgs false
set_option linter.unusedVariables false
namespace Go.Proofs.Ytgohaemmnpifbaa
open Go.RowKit Go.ChangeShapes Go.WideShapes M

theorem l1MostH_any (a b : Int) (w : World) :
    Calls Try.prog 59 #[.int .i64 a, .int .i64 b] w fun e w' => e = .returned (.int .i64 (max a b)) ∧ w = w' := by
  by_cases h : b < a
  · have hd : decide (b < a) = true := decide_eq_true h
    have hf := Lib.hid (show max a b = a by omega)
    clear h
    go_enter Try.func59, Try.ntmps59
    go_wp2
    go_ret
    exact ⟨ret_int hf.out.symm, rfl⟩
  · have hd : decide (b < a) = false := decide_eq_false h
    have hf := Lib.hid (show max a b = b by omega)
    clear h
    go_enter Try.func59, Try.ntmps59
    go_wp2
    go_ret
    exact ⟨ret_int hf.out.symm, rfl⟩
theorem l1LeastH_any (a b : Int) (w : World) :
    Calls Try.prog 83 #[.int .i64 a, .int .i64 b] w fun e w' => e = .returned (.int .i64 (min a b)) ∧ w = w' := by
  by_cases h : a < b
  · have hd : decide (a < b) = true := decide_eq_true h
    have hf := Lib.hid (show min a b = a by omega)
    clear h
    go_enter Try.func83, Try.ntmps83
    go_wp2
    go_ret
    exact ⟨ret_int hf.out.symm, rfl⟩
  · have hd : decide (a < b) = false := decide_eq_false h
    have hf := Lib.hid (show min a b = b by omega)
    clear h
    go_enter Try.func83, Try.ntmps83
    go_wp2
    go_ret
    exact ⟨ret_int hf.out.symm, rfl⟩

/-- The block of the hunk at hand stays. -/
theorem x_grown {w2 w3 : World} {v : Value} {X : Nat} {o : Obj} (h : w2.heap[X]? = some o) (hg : w2.grownBy w3 v.ownBlock) (hne : v.ownBlock ≠ some X) : w3.heap[X]? = some o :=
  (hg.block _ (Array.getElem?_eq_some_iff.1 h).1 (fun e => hne e.symm)).trans h
theorem x_stored {w3 : World} {u : Value} {X G j : Nat} {o : Obj} (h : w3.heap[X]? = some o) (hne : X ≠ G) : (w3.setCell ⟨G, j, none⟩ u).heap[X]? = some o := by
  rw [Below.heap_setCell _ _ _ _ (by simpa using hne)]; exact h
theorem ne_grown {v v3 : Value} {X n : Nat} (hne : v.ownBlock ≠ some X) (hat : v3.ownBlock = v.ownBlock ∨ v3.ownBlock = some n) (hn : X < n) : v3.ownBlock ≠ some X := by
  rcases hat with h | h
  · rw [h]; exact hne
  · rw [h]; intro e; injection e with e; omega

set_option maxHeartbeats 8000000 in
set_option maxRecDepth 100000 in
theorem l6One_any (a : Option Addr) (nl cl : Nat) (l : List ByteArray) (b0 : Option Addr) (n c : Nat) (hs : List Hk) (x y : Hk) (W F E : Nat) (more : Int) (w : World) (hl : Strs w a nl l) (hcl : nl ≤ cl) (hh : Hks w b0 n hs) (hx : hs[0]? = some x) (hy : hs[n - 1]? = some y) (hF : fromN W x = F) (hE : endN nl W y = E) (hr0 : restOk E hs F) (hFE : F ≤ E) (hEn : E ≤ nl) (hnl : nl ≤ 40) (hn : n ≤ 20) (hW : W ≤ 20) (hm0 : -800 ≤ more) (hm1 : more ≤ 800)
    (hb0 : ∀ z ∈ hs, 0 ≤ z.at_ ∧ z.at_ ≤ 40 ∧ 0 ≤ z.gone ∧ z.gone ≤ 40 ∧ z.new.length ≤ 40) :
    Calls Try.prog 65 #[.slice a nl cl, .slice b0 n c, .int .i64 (W : Int), .int .i64 more] w fun e w' => ∃ u, e = .returned (.agg #[.int .i64 (F : Int), .int .i64 ((F : Int) + more), u]) ∧ OwnRw w' w.heap.size u (rowsM l E F hs) ∧ Below w.heap.size w w' := by
  have HL := Lib.hid hl.len
  have HN := Lib.hid hh.len
  have hn1 : 1 ≤ n := by have := (List.getElem?_eq_some_iff.1 hx).1; have := HN.out; omega
  have hxb := hb0 x (List.mem_of_getElem? hx)
  have hyb := hb0 y (List.mem_of_getElem? hy)
  obtain ⟨b, off, A, m, c', x', rfl, hx', x0, x1, x2, _, _, _, _⟩ := hh.at_ (show 0 < n by omega)
  rw [hx] at hx'
  injection hx' with hx'
  subst hx'
  obtain ⟨b', off', A', m', c2', y', hbo, hy', y0, y1, y2, _, _, _, _⟩ := hh.at_ (show n - 1 < n by omega)
  injection hbo with hbo
  injection hbo with hbo1 hbo2
  subst hbo1 hbo2
  rw [hy] at hy'
  injection hy' with hy'
  subst hy'
  have HMF := Lib.hid (show max 0 (x.at_ - (W : Int)) = (F : Int) by rw [← hF]; unfold fromN; omega)
  have HME := Lib.hid (show min (nl : Int) (y.at_ + y.gone + (W : Int)) = (E : Int) by rw [← hE]; unfold endN; omega)
  have HR0 := Lib.hid hr0
  have HB0 := Lib.hid hb0
  have HHH := Lib.hid hh
  have HLL := Lib.hid hl
  obtain ⟨xa0, xa1, xg0, xg1, xn⟩ := hxb
  obtain ⟨ya0, ya1, yg0, yg1, yn⟩ := hyb
  obtain ⟨xa, xg, xnew⟩ := x
  obtain ⟨ya, yg, ynew⟩ := y
  dsimp only at *
  rw [Nat.zero_mul, Nat.add_zero] at x0
  have s1 : IntKind.i64.wrap (xa - (W : Int)) = xa - (W : Int) := by rw [IntKind.wrap_i64]; omega
  have s2 : IntKind.i64.wrap ((n : Int) - 1) = (n : Int) - 1 := by rw [IntKind.wrap_i64]; omega
  have s3 : IntKind.i64.wrap ((F : Int) + more) = (F : Int) + more := by rw [IntKind.wrap_i64]; omega
  have s4 : IntKind.i64.wrap (ya + yg) = ya + yg := by rw [IntKind.wrap_i64]; omega
  have s5 : IntKind.i64.wrap (ya + yg + (W : Int)) = ya + yg + (W : Int) := by rw [IntKind.wrap_i64]; omega
  have j0 : (0 : Int) ≤ (n : Int) - 1 := by omega
  have j0' : (1 : Int) ≤ (n : Int) := by omega
  have j0n : (0 : Int) < (n : Int) := by omega
  have j1 : (n : Int) - 1 < (n : Int) := by omega
  have jt : ((n : Int) - 1).toNat = n - 1 := by omega
  obtain ⟨W1, HW1⟩ : ∃ W1, Hid (W1 = w.alloc (.cells #[.int .i64 0, .int .i64 0, .slice none 0 0] 51)) := ⟨_, rfl⟩
  have HBW1 := Lib.hid (show Below w.heap.size w W1 by rw [HW1.out]; exact below_alloc _ _)
  have HS1 := Lib.hid (show W1.heap.size = w.heap.size + 1 by rw [HW1.out]; simp)
  obtain ⟨W3, HW3⟩ : ∃ W3, Hid (W3 = (W1.alloc (.cells #[.int .i64 ya, .int .i64 yg, .slice A' m' c2'] 64)).alloc (.cells #[.int .i64 (F : Int), .int .i64 ((F : Int) + more), .slice none 0 0] 51)) := ⟨_, rfl⟩
  have HOS := Lib.hid (show OneSt w W3 #[.int .i64 ya, .int .i64 yg, .slice A' m' c2'] (F : Int) ((F : Int) + more) (.slice none 0 0) [] by
    refine ⟨?_, ?_, ?_, OwnRw.nil_, ?_⟩
    · rw [HW3.out, Below.heap_alloc _ _ _ (by simp [HS1.out]; omega), Below.heap_alloc _ _ _ (by rw [HS1.out]; omega), HW1.out]; exact heap_at rfl
    · rw [HW3.out, Below.heap_alloc _ _ _ (by simp [HS1.out]), ← HS1.out]; exact heap_at rfl
    · rw [HW3.out]; exact heap_at (by simp [HS1.out])
    · rw [HW3.out]; exact (HBW1.out.next (below_alloc _ _)).next (below_alloc _ _))
  have x0' := fun o => cell_keep (below_alloc w o) x0
  have y0' := cell_keep HBW1.out y0
  have y1' := cell_keep HBW1.out y1
  have y2' := cell_keep HBW1.out y2
  clear hx hy hF hE hr0 hb0 x0 x1 x2 y0 y1 y2
  go_enter Try.func65, Try.ntmps65
  go_wp2_with fail
  refine (l1MostH_any _ _ _).mono ?_
  rintro e w' ⟨rfl, rfl⟩
  rw [HMF.out, ← HW1.out]
  go_wp2
  rw [← HW3.out]
  clear x0' y0' y1' y2' j0 j0' j1 jt j0n s1 s2 s3
  obtain ⟨LB, HLB⟩ : ∃ LB, Hid (W1.heap.size = LB) := ⟨_, rfl⟩
  obtain ⟨G, HG⟩ : ∃ G, Hid (W1.heap.size + 1 = G) := ⟨_, rfl⟩
  have HLW := Lib.hid (show w.heap.size + 1 = LB by rw [← HLB.out, HS1.out])
  have HGW := Lib.hid (show w.heap.size + 2 = G by rw [← HG.out, HS1.out])
  rw [HG.out, HLB.out]
  obtain ⟨Y, HY⟩ : ∃ Y : Array Value, Hid (#[.int .i64 ya, .int .i64 yg, .slice A' m' c2'] = Y) := ⟨_, rfl⟩
  rw [HY.out] at HOS
  obtain ⟨T, HT⟩ : ∃ T, Hid ((F : Int) + more = T) := ⟨_, rfl⟩
  rw [HT.out] at HOS
  go_loopw [12, 37] (fun q i w' => ∃ (v : Value) (out : List Rw), ∃ j p : Nat, i = .int .i64 (j : Int) ∧ q = .int .i64 (p : Int) ∧ j ≤ n ∧ p ≤ E ∧ Hid (OneSt w w' Y (F : Int) T v out) ∧ Hid (out.length ≤ 120 * j) ∧ Hid (restOk E (hs.drop j) p) ∧ Hid (out ++ rowsM l E p (hs.drop j) = rowsM l E F hs)) (fun _ i _ => n - (intOf i).toNat)
  case atStart => exact ⟨_, [], 0, F, rfl, rfl, by omega, hFE, HOS.out, show _ ≤ _ by simp, HR0.out, rfl⟩
  case round =>
    obtain ⟨v, out, j, p, rfl, rfl, hj, hp, OS0, HO, HR, HP⟩ := hrel
    have hb := OS0.out.low
    by_cases hlt : j < n
    · obtain ⟨bz, offz, Az, mz, cz, z, hbz, hz, c0, c1, c2, hst, hmc, i0, i1⟩ := HHH.out.at_ hlt
      injection hbz with hbz
      injection hbz with hbz1 hbz2
      subst hbz1 hbz2
      obtain ⟨at', go, ea, eg, hpa, hag, hln, hno, hrest⟩ := rest_step hz HR.out
      have hstep := Lib.hid (rowsM_step (l := l) (q := E) (p := p) hz)
      obtain ⟨za, zg, zn⟩ := z
      dsimp only at ea eg hln c0 c1 c2 hst i0 i1
      subst ea eg
      have hm40 : mz ≤ 40 := by rw [← hst.len]; exact linesB_len hln
      obtain ⟨hi, Hhi⟩ : ∃ hi, Hid (hi = at' + go) := ⟨_, rfl⟩
      have hhn : hi ≤ E := by rw [Hhi.out]; omega
      have hah : at' ≤ hi := by rw [Hhi.out]; omega
      have HREST := Lib.hid (show restOk E (hs.drop (j + 1)) hi by rw [Hhi.out]; exact hrest)
      have HM := Lib.hid hst.len
      have HST := Lib.hid hst
      have hlen0 : out.length ≤ 2400 := by have := HO.out; omega
      have hcut := cut_strs a nl cl p at' hpa (by omega)
      have hcut2 := cut_strs a nl cl at' hi hah (by omega)
      have hwe : IntKind.i64.wrap ((at' : Int) + (go : Int)) = (hi : Int) := by have h := Hhi.out; rw [IntKind.wrap_i64]; omega
      have d0 := cell_keep hb c0
      have d1 := cell_keep hb c1
      have d2 := cell_keep hb c2
      obtain ⟨wa, HWA⟩ : ∃ wa, Hid (wa = wr.alloc (.cells #[.int .i64 (at' : Int), .int .i64 (go : Int), .slice Az mz cz] 64)) := ⟨_, rfl⟩
      have OS := Lib.hid (show OneSt w wa Y (F : Int) T v out from by rw [HWA.out]; exact OS0.out.below (below_alloc _ _))
      obtain ⟨X, HX⟩ : ∃ X, Hid (wr.heap.size = X) := ⟨_, rfl⟩
      have XO := Lib.hid (show wa.heap[X]? = some (.cells #[.int .i64 (at' : Int), .int .i64 (go : Int), .slice Az mz cz] 64 (0, 0)) by rw [HWA.out, ← HX.out]; exact heap_at rfl)
      have hX3 := Lib.hid (show w.heap.size + 3 ≤ X by rw [← HX.out]; exact OS0.out.big)
      have HNE := Lib.hid (show v.ownBlock ≠ some X from fun e => by have := (OS0.out.own.lt e).2; have := HX.out; omega)
      have HBA := Lib.hid (show Below w.heap.size w wa from OS.out.low)
      have hGX := Lib.hid (show X ≠ G by have := hX3.out; have := HGW.out; omega)
      clear hz hrest hag hln hno hst c0 c1 c2
      go_upto_region 8 with fail
      rw [← HWA.out, HX.out]
      clear d0 d1 d2
      have HO0 := Lib.hid hlen0
      have Lout := hlen0
      have LS1 := Lib.hid (seg_len l p at')
      have LS2 := Lib.hid (seg_len l at' hi)
      go_cut [] (fun wx => ∃ v', OneSt w wx Y (F : Int) T v' (out ++ kR 1 (seg l p at')) ∧ wx.heap[X]? = some (.cells #[.int .i64 (at' : Int), .int .i64 (go : Int), .slice Az mz cz] 64 (0, 0)) ∧ v'.ownBlock ≠ some X)
      case first => as_aux_lemma =>
        have x0 : wa.cell? ⟨X, 0, none⟩ = some (.int .i64 (at' : Int)) := by simp [World.cell?, XO.out]
        have x1 : wa.cell? ⟨X, 1, none⟩ = some (.int .i64 (go : Int)) := by simp [World.cell?, XO.out]
        have x2 : wa.cell? ⟨X, 2, none⟩ = some (.slice Az mz cz) := by simp [World.cell?, XO.out]
        have G2 := Lib.hid (show wa.cell? ⟨G, 2, none⟩ = some v by rw [← HGW.out]; exact OS.out.rows.1)
        go_wp2
        refine wp_region_held_drew (S := fun w' => w'.cell? ⟨X, 0, none⟩ = some (.int .i64 (at' : Int)) ∧ w'.cell? ⟨X, 1, none⟩ = some (.int .i64 (go : Int)) ∧ w'.cell? ⟨X, 2, none⟩ = some (.slice Az mz cz)) (by kernel_rfl) ?_ (fun hHeld => ?_)
        · exact ⟨x0, x1, x2⟩
        refine wpAnyH_take (i := 0) (v := ?_) (by simp only [List.getElem?_toArray, List.getElem?_cons_succ, List.getElem?_cons_zero]; rfl) (by kernel_rfl) (by kernel_rfl) (by kernel_rfl) (by exact fun _ _ _ h => h) (Or.inl ⟨by rfl, ?_⟩) hHeld ?_
        rotate_left 1
        · (intro w hSw; (try dsimp only at hSw); go_simp; (try with_reducible rfl))
        (try simp only [Act.put, List.setIfInBounds_toArray, List.set_cons_zero, List.set_cons_succ])
        refine wpAnyH_take (i := 2) (v := ?_) (by simp only [List.getElem?_toArray, List.getElem?_cons_succ, List.getElem?_cons_zero]; rfl) (by kernel_rfl) (by kernel_rfl) (by kernel_rfl) (by exact fun _ _ _ h => h) (Or.inl ⟨by rfl, ?_⟩) hHeld ?_
        rotate_left 1
        · (intro w hSw; (try dsimp only at hSw); go_simp; (try with_reducible rfl))
        (try simp only [Act.put, List.setIfInBounds_toArray, List.set_cons_zero, List.set_cons_succ])
        refine wpAnyH_take (i := 3) (v := ?_) (by simp only [List.getElem?_toArray, List.getElem?_cons_succ, List.getElem?_cons_zero]; rfl) (by kernel_rfl) (by kernel_rfl) (by kernel_rfl) (by exact fun _ _ _ h => h) (Or.inl ⟨by rfl, ?_⟩) hHeld ?_
        rotate_left 1
        · (intro w hSw; (try dsimp only at hSw); go_simp; (try with_reducible rfl))
        (try simp only [Act.put, List.setIfInBounds_toArray, List.set_cons_zero, List.set_cons_succ])
        refine wpAnyH_take (i := 4) (v := ?_) (by simp only [List.getElem?_toArray, List.getElem?_cons_succ, List.getElem?_cons_zero]; rfl) (by kernel_rfl) (by kernel_rfl) (by kernel_rfl) (by exact fun _ _ _ h => h) (Or.inl ⟨by rfl, ?_⟩) hHeld ?_
        rotate_left 1
        · (intro w hSw; (try dsimp only at hSw); go_simp; (try with_reducible rfl))
        (try simp only [Act.put, List.setIfInBounds_toArray, List.set_cons_zero, List.set_cons_succ])
        refine wpAnyH_take (i := 5) (v := ?_) (by simp only [List.getElem?_toArray, List.getElem?_cons_succ, List.getElem?_cons_zero]; rfl) (by kernel_rfl) (by kernel_rfl) (by kernel_rfl) (by exact fun _ _ _ h => h) (Or.inl ⟨by rfl, ?_⟩) hHeld ?_
        rotate_left 1
        · (intro w hSw; (try dsimp only at hSw); go_simp; (try with_reducible rfl))
        (try simp only [Act.put, List.setIfInBounds_toArray, List.set_cons_zero, List.set_cons_succ])
        refine wpAnyH_take (i := 6) (v := ?_) (by simp only [List.getElem?_toArray, List.getElem?_cons_succ, List.getElem?_cons_zero]; rfl) (by kernel_rfl) (by kernel_rfl) (by kernel_rfl) (by exact fun _ _ _ h => h) (Or.inl ⟨by rfl, ?_⟩) hHeld ?_
        rotate_left 1
        · (intro w hSw; (try dsimp only at hSw); go_simp; (try with_reducible rfl))
        (try simp only [Act.put, List.setIfInBounds_toArray, List.set_cons_zero, List.set_cons_succ])
        refine wpAnyH_ready (rs := [1, 7]) (by kernel_rfl) (by simp) ?_
        refine AllReadyH.cons (by simp only [List.getElem?_toArray, List.getElem?_cons_succ, List.getElem?_cons_zero]; rfl) (fun K hK => ?_) (AllReadyH.cons (by simp only [List.getElem?_toArray, List.getElem?_cons_succ, List.getElem?_cons_zero]; rfl) (fun K hK => ?_) AllReadyH.nil)
        · have gld := G2.out
          go_simp
          clear gld
          refine hK.out _ _ ?_ (fun hHeld => ?_)
          · exact ⟨x0, x1, x2⟩
          clear hK K
          (try simp only [Act.put, List.setIfInBounds_toArray, List.set_cons_zero, List.set_cons_succ])
          refine wpAnyH_ready (rs := [7]) (by kernel_rfl) (by simp) ?_
          refine AllReadyH.cons (by simp only [List.getElem?_toArray, List.getElem?_cons_succ, List.getElem?_cons_zero]; rfl) (fun K hK => ?_) AllReadyH.nil
          go_simp
          go_at_call 82
          refine (l6Rows_any 1 (cutA a cl p) (at' - p) (cl - p) (seg l p at') _ ⟨by decide, by decide⟩ ((HLL.out.below HBA.out.drew).cut hpa (by omega) hcl) (by omega)).mono ?_
          rintro e w2 ⟨u, rfl, o2, b2⟩
          obtain ⟨ul, HUL⟩ : ∃ ul, Hid ((kR 1 (seg l p at')).length = ul) := ⟨_, rfl⟩
          obtain ⟨uA, uc, rfl, hu1, _⟩ := o2.form HUL.out
          have D2 := Lib.hid (show Below wa.heap.size wa w2 from (Below.refl _ wa).drew.next b2)
          have o2b := o2.more (show w.heap.size + 3 ≤ wa.drew.heap.size from OS.out.big)
          have OS2 := Lib.hid (OS.out.below D2.out)
          clear b2
          have X2 : w2.heap[X]? = some (.cells #[.int .i64 (at' : Int), .int .i64 (go : Int), .slice Az mz cz] 64 (0, 0)) := (D2.out.block _ (Array.getElem?_eq_some_iff.1 XO.out).1).trans XO.out
          refine hK.out _ _ ?_ (fun hHeld => ?_)
          · exact ⟨by simp [World.cell?, X2], by simp [World.cell?, X2], by simp [World.cell?, X2]⟩
          clear hK K
          (try simp only [Act.put, List.setIfInBounds_toArray, List.set_cons_zero, List.set_cons_succ])
          refine wpAnyH_ready (rs := [8]) (by kernel_rfl) (by simp) ?_
          refine AllReadyH.cons (by simp only [List.getElem?_toArray, List.getElem?_cons_succ, List.getElem?_cons_zero]; rfl) (fun K hK => ?_) AllReadyH.nil
          refine step_rws (.tmp 42) (.tmp 48) (w.heap.size + 3) v out OS2.out.own uA ul uc (kR 1 (seg l p at')) o2b (by have h1 := HO0.out; have h2 := HUL.out; rw [kR_len] at h2; have := LS1.out; omega) OS2.out.big rfl rfl rfl rfl ?_
          intro v3 w3 o3 g3 p3
          obtain ⟨vl, HVL⟩ : ∃ vl, Hid ((out ++ kR 1 (seg l p at')).length = vl) := ⟨_, rfl⟩
          obtain ⟨vA, vc, rfl, hv1, _⟩ := o3.form HVL.out
          have gg := OS2.out.grown g3
          rw [HGW.out] at gg
          have e2 : w3.cell? ⟨G, 2, none⟩ = some v := by simp [World.cell?, gg.2.2.1]
          have f2 : ∀ j, w3.frozen? ⟨G, j, none⟩ = false := fun j => by simp [World.frozen?, gg.2.2.1]
          have OS3 := Lib.hid (OS2.out.stored g3 o3)
          rw [HGW.out] at OS3
          have X3 : w3.heap[X]? = some (.cells #[.int .i64 (at' : Int), .int .i64 (go : Int), .slice Az mz cz] 64 (0, 0)) := x_grown X2 g3 HNE.out
          have X4 : (w3.setCell ⟨G, 2, none⟩ (.slice vA vl vc)).heap[X]? = some (.cells #[.int .i64 (at' : Int), .int .i64 (go : Int), .slice Az mz cz] 64 (0, 0)) := x_stored X3 hGX.out
          have NE3 := ne_grown HNE.out p3 (Array.getElem?_eq_some_iff.1 X2).1
          refine hK.out _ _ ?_ (fun hHeld => ?_)
          · exact ⟨by simp [World.cell?, X3], by simp [World.cell?, X3], by simp [World.cell?, X3]⟩
          clear hK K
          (try simp only [Act.put, List.setIfInBounds_toArray, List.set_cons_zero, List.set_cons_succ])
          refine wpAnyH_take (i := 9) (v := ?_) (by simp only [List.getElem?_toArray, List.getElem?_cons_succ, List.getElem?_cons_zero]; rfl) (by kernel_rfl) (by kernel_rfl) (by kernel_rfl) (by exact fun _ _ _ h => h) (Or.inl ⟨by rfl, ?_⟩) hHeld ?_
          rotate_left 1
          · (intro w hSw; (try dsimp only at hSw); go_simp; (try with_reducible rfl))
          (try simp only [Act.put, List.setIfInBounds_toArray, List.set_cons_zero, List.set_cons_succ])
          refine wpAnyH_ready (rs := [10]) (by kernel_rfl) (by simp) ?_
          refine AllReadyH.cons (by simp only [List.getElem?_toArray, List.getElem?_cons_succ, List.getElem?_cons_zero]; rfl) (fun K hK => ?_) AllReadyH.nil
          go_simp
          refine hK.out _ _ ?_ (fun hHeld => ?_)
          · exact ⟨by simp [World.cell?, X4], by simp [World.cell?, X4], by simp [World.cell?, X4]⟩
          clear hK K
          (try simp only [Act.put, List.setIfInBounds_toArray, List.set_cons_zero, List.set_cons_succ])
          refine wpAnyH_done (by kernel_rfl) ?_ _
          clear hHeld
          go_wp2_with fail
          go_meet
          case rel => exact ⟨_, OS3.out, X4, NE3⟩
        · go_simp
          go_at_call 82
          refine (l6Rows_any 1 (cutA a cl p) (at' - p) (cl - p) (seg l p at') _ ⟨by decide, by decide⟩ ((HLL.out.below HBA.out.drew).cut hpa (by omega) hcl) (by omega)).mono ?_
          rintro e w2 ⟨u, rfl, o2, b2⟩
          obtain ⟨ul, HUL⟩ : ∃ ul, Hid ((kR 1 (seg l p at')).length = ul) := ⟨_, rfl⟩
          obtain ⟨uA, uc, rfl, hu1, _⟩ := o2.form HUL.out
          have D2 := Lib.hid (show Below wa.heap.size wa w2 from (Below.refl _ wa).drew.next b2)
          have o2b := o2.more (show w.heap.size + 3 ≤ wa.drew.heap.size from OS.out.big)
          have OS2 := Lib.hid (OS.out.below D2.out)
          clear b2
          have X2 : w2.heap[X]? = some (.cells #[.int .i64 (at' : Int), .int .i64 (go : Int), .slice Az mz cz] 64 (0, 0)) := (D2.out.block _ (Array.getElem?_eq_some_iff.1 XO.out).1).trans XO.out
          refine hK.out _ _ ?_ (fun hHeld => ?_)
          · exact ⟨by simp [World.cell?, X2], by simp [World.cell?, X2], by simp [World.cell?, X2]⟩
          clear hK K
          (try simp only [Act.put, List.setIfInBounds_toArray, List.set_cons_zero, List.set_cons_succ])
          refine wpAnyH_ready (rs := [1]) (by kernel_rfl) (by simp) ?_
          refine AllReadyH.cons (by simp only [List.getElem?_toArray, List.getElem?_cons_succ, List.getElem?_cons_zero]; rfl) (fun K hK => ?_) AllReadyH.nil
          have gld := cell_keep D2.out G2.out
          go_simp
          clear gld
          refine hK.out _ _ ?_ (fun hHeld => ?_)
          · exact ⟨by simp [World.cell?, X2], by simp [World.cell?, X2], by simp [World.cell?, X2]⟩
          clear hK K
          (try simp only [Act.put, List.setIfInBounds_toArray, List.set_cons_zero, List.set_cons_succ])
          refine wpAnyH_ready (rs := [8]) (by kernel_rfl) (by simp) ?_
          refine AllReadyH.cons (by simp only [List.getElem?_toArray, List.getElem?_cons_succ, List.getElem?_cons_zero]; rfl) (fun K hK => ?_) AllReadyH.nil
          refine step_rws (.tmp 42) (.tmp 48) (w.heap.size + 3) v out OS2.out.own uA ul uc (kR 1 (seg l p at')) o2b (by have h1 := HO0.out; have h2 := HUL.out; rw [kR_len] at h2; have := LS1.out; omega) OS2.out.big rfl rfl rfl rfl ?_
          intro v3 w3 o3 g3 p3
          obtain ⟨vl, HVL⟩ : ∃ vl, Hid ((out ++ kR 1 (seg l p at')).length = vl) := ⟨_, rfl⟩
          obtain ⟨vA, vc, rfl, hv1, _⟩ := o3.form HVL.out
          have gg := OS2.out.grown g3
          rw [HGW.out] at gg
          have e2 : w3.cell? ⟨G, 2, none⟩ = some v := by simp [World.cell?, gg.2.2.1]
          have f2 : ∀ j, w3.frozen? ⟨G, j, none⟩ = false := fun j => by simp [World.frozen?, gg.2.2.1]
          have OS3 := Lib.hid (OS2.out.stored g3 o3)
          rw [HGW.out] at OS3
          have X3 : w3.heap[X]? = some (.cells #[.int .i64 (at' : Int), .int .i64 (go : Int), .slice Az mz cz] 64 (0, 0)) := x_grown X2 g3 HNE.out
          have X4 : (w3.setCell ⟨G, 2, none⟩ (.slice vA vl vc)).heap[X]? = some (.cells #[.int .i64 (at' : Int), .int .i64 (go : Int), .slice Az mz cz] 64 (0, 0)) := x_stored X3 hGX.out
          have NE3 := ne_grown HNE.out p3 (Array.getElem?_eq_some_iff.1 X2).1
          refine hK.out _ _ ?_ (fun hHeld => ?_)
          · exact ⟨by simp [World.cell?, X3], by simp [World.cell?, X3], by simp [World.cell?, X3]⟩
          clear hK K
          (try simp only [Act.put, List.setIfInBounds_toArray, List.set_cons_zero, List.set_cons_succ])
          refine wpAnyH_take (i := 9) (v := ?_) (by simp only [List.getElem?_toArray, List.getElem?_cons_succ, List.getElem?_cons_zero]; rfl) (by kernel_rfl) (by kernel_rfl) (by kernel_rfl) (by exact fun _ _ _ h => h) (Or.inl ⟨by rfl, ?_⟩) hHeld ?_
          rotate_left 1
          · (intro w hSw; (try dsimp only at hSw); go_simp; (try with_reducible rfl))
          (try simp only [Act.put, List.setIfInBounds_toArray, List.set_cons_zero, List.set_cons_succ])
          refine wpAnyH_ready (rs := [10]) (by kernel_rfl) (by simp) ?_
          refine AllReadyH.cons (by simp only [List.getElem?_toArray, List.getElem?_cons_succ, List.getElem?_cons_zero]; rfl) (fun K hK => ?_) AllReadyH.nil
          go_simp
          refine hK.out _ _ ?_ (fun hHeld => ?_)
          · exact ⟨by simp [World.cell?, X4], by simp [World.cell?, X4], by simp [World.cell?, X4]⟩
          clear hK K
          (try simp only [Act.put, List.setIfInBounds_toArray, List.set_cons_zero, List.set_cons_succ])
          refine wpAnyH_done (by kernel_rfl) ?_ _
          clear hHeld
          go_wp2_with fail
          go_meet
          case rel => exact ⟨_, OS3.out, X4, NE3⟩
      case rest => as_aux_lemma =>
      obtain ⟨v, os', xo', ne'⟩ := hcut
      clear OS XO HNE HO0 HBA
      obtain ⟨wa, hwa⟩ : ∃ wa, wa = wc := ⟨_, rfl⟩
      subst hwa
      obtain ⟨out1, Hout1⟩ : ∃ o, Hid (out ++ kR 1 (seg l p at') = o) := ⟨_, rfl⟩
      rw [Hout1.out] at os'
      have OS := Lib.hid os'
      have XO := Lib.hid xo'
      have HNE := Lib.hid ne'
      have HBA := Lib.hid os'.low
      have HO0 := Lib.hid (show out1.length ≤ 2440 by rw [← Hout1.out, List.length_append, kR_len]; have := LS1.out;  have := Lout; omega)
      have Lout1 := HO0.out
      clear os' xo' ne'
      go_upto_region 9 with fail
      go_cut [] (fun wx => ∃ v', OneSt w wx Y (F : Int) T v' (out1 ++ kR 2 (seg l at' hi)) ∧ wx.heap[X]? = some (.cells #[.int .i64 (at' : Int), .int .i64 (go : Int), .slice Az mz cz] 64 (0, 0)) ∧ v'.ownBlock ≠ some X)
      case first => as_aux_lemma =>
        have x0 : wa.cell? ⟨X, 0, none⟩ = some (.int .i64 (at' : Int)) := by simp [World.cell?, XO.out]
        have x1 : wa.cell? ⟨X, 1, none⟩ = some (.int .i64 (go : Int)) := by simp [World.cell?, XO.out]
        have x2 : wa.cell? ⟨X, 2, none⟩ = some (.slice Az mz cz) := by simp [World.cell?, XO.out]
        have G2 := Lib.hid (show wa.cell? ⟨G, 2, none⟩ = some v by rw [← HGW.out]; exact OS.out.rows.1)
        go_wp2
        refine wp_region_held_drew (S := fun w' => w'.cell? ⟨X, 0, none⟩ = some (.int .i64 (at' : Int)) ∧ w'.cell? ⟨X, 1, none⟩ = some (.int .i64 (go : Int)) ∧ w'.cell? ⟨X, 2, none⟩ = some (.slice Az mz cz)) (by kernel_rfl) ?_ (fun hHeld => ?_)
        · exact ⟨x0, x1, x2⟩
        refine wpAnyH_take (i := 0) (v := ?_) (by simp only [List.getElem?_toArray, List.getElem?_cons_succ, List.getElem?_cons_zero]; rfl) (by kernel_rfl) (by kernel_rfl) (by kernel_rfl) (by exact fun _ _ _ h => h) (Or.inl ⟨by rfl, ?_⟩) hHeld ?_
        rotate_left 1
        · (intro w hSw; (try dsimp only at hSw); go_simp; (try with_reducible rfl))
        (try simp only [Act.put, List.setIfInBounds_toArray, List.set_cons_zero, List.set_cons_succ])
        refine wpAnyH_take (i := 2) (v := ?_) (by simp only [List.getElem?_toArray, List.getElem?_cons_succ, List.getElem?_cons_zero]; rfl) (by kernel_rfl) (by kernel_rfl) (by kernel_rfl) (by exact fun _ _ _ h => h) (Or.inl ⟨by rfl, ?_⟩) hHeld ?_
        rotate_left 1
        · (intro w hSw; (try dsimp only at hSw); go_simp; (try with_reducible rfl))
        (try simp only [Act.put, List.setIfInBounds_toArray, List.set_cons_zero, List.set_cons_succ])
        refine wpAnyH_take (i := 3) (v := ?_) (by simp only [List.getElem?_toArray, List.getElem?_cons_succ, List.getElem?_cons_zero]; rfl) (by kernel_rfl) (by kernel_rfl) (by kernel_rfl) (by exact fun _ _ _ h => h) (Or.inl ⟨by rfl, ?_⟩) hHeld ?_
        rotate_left 1
        · (intro w hSw; (try dsimp only at hSw); go_simp; (try with_reducible rfl))
        (try simp only [Act.put, List.setIfInBounds_toArray, List.set_cons_zero, List.set_cons_succ])
        refine wpAnyH_take (i := 4) (v := ?_) (by simp only [List.getElem?_toArray, List.getElem?_cons_succ, List.getElem?_cons_zero]; rfl) (by kernel_rfl) (by kernel_rfl) (by kernel_rfl) (by exact fun _ _ _ h => h) (Or.inl ⟨by rfl, ?_⟩) hHeld ?_
        rotate_left 1
        · (intro w hSw; (try dsimp only at hSw); go_simp; (try with_reducible rfl))
        (try simp only [Act.put, List.setIfInBounds_toArray, List.set_cons_zero, List.set_cons_succ])
        refine wpAnyH_take (i := 5) (v := ?_) (by simp only [List.getElem?_toArray, List.getElem?_cons_succ, List.getElem?_cons_zero]; rfl) (by kernel_rfl) (by kernel_rfl) (by kernel_rfl) (by exact fun _ _ _ h => h) (Or.inl ⟨by rfl, ?_⟩) hHeld ?_
        rotate_left 1
        · (intro w hSw; (try dsimp only at hSw); go_simp; (try with_reducible rfl))
        (try simp only [Act.put, List.setIfInBounds_toArray, List.set_cons_zero, List.set_cons_succ])
        refine wpAnyH_take (i := 6) (v := ?_) (by simp only [List.getElem?_toArray, List.getElem?_cons_succ, List.getElem?_cons_zero]; rfl) (by kernel_rfl) (by kernel_rfl) (by kernel_rfl) (by exact fun _ _ _ h => h) (Or.inl ⟨by rfl, ?_⟩) hHeld ?_
        rotate_left 1
        · (intro w hSw; (try dsimp only at hSw); go_simp; (try with_reducible rfl))
        (try simp only [Act.put, List.setIfInBounds_toArray, List.set_cons_zero, List.set_cons_succ])
        refine wpAnyH_take (i := 7) (v := ?_) (by simp only [List.getElem?_toArray, List.getElem?_cons_succ, List.getElem?_cons_zero]; rfl) (by kernel_rfl) (by kernel_rfl) (by kernel_rfl) (by exact fun _ _ _ h => h) (Or.inl ⟨by rfl, ?_⟩) hHeld ?_
        rotate_left 1
        · (intro w hSw; (try dsimp only at hSw); go_simp; (try with_reducible rfl))
        (try simp only [Act.put, List.setIfInBounds_toArray, List.set_cons_zero, List.set_cons_succ])
        refine wpAnyH_take (i := 8) (v := ?_) (by simp only [List.getElem?_toArray, List.getElem?_cons_succ, List.getElem?_cons_zero]; rfl) (by kernel_rfl) (by kernel_rfl) (by kernel_rfl) (by exact fun _ _ _ h => h) (Or.inl ⟨by rfl, ?_⟩) hHeld ?_
        rotate_left 1
        · (intro w hSw; (try dsimp only at hSw); go_simp; (try with_reducible rfl))
        (try simp only [Act.put, List.setIfInBounds_toArray, List.set_cons_zero, List.set_cons_succ])
        refine wpAnyH_take (i := 9) (v := ?_) (by simp only [List.getElem?_toArray, List.getElem?_cons_succ, List.getElem?_cons_zero]; rfl) (by kernel_rfl) (by kernel_rfl) (by kernel_rfl) (by exact fun _ _ _ h => h) (Or.inl ⟨by rfl, ?_⟩) hHeld ?_
        rotate_left 1
        · (intro w hSw; (try dsimp only at hSw); go_simp; (try with_reducible rfl))
        (try simp only [Act.put, List.setIfInBounds_toArray, List.set_cons_zero, List.set_cons_succ])
        refine wpAnyH_take (i := 10) (v := ?_) (by simp only [List.getElem?_toArray, List.getElem?_cons_succ, List.getElem?_cons_zero]; rfl) (by kernel_rfl) (by kernel_rfl) (by kernel_rfl) (by exact fun _ _ _ h => h) (Or.inl ⟨by rfl, ?_⟩) hHeld ?_
        rotate_left 1
        · (intro w hSw; (try dsimp only at hSw); go_simp; (try with_reducible rfl))
        (try simp only [Act.put, List.setIfInBounds_toArray, List.set_cons_zero, List.set_cons_succ])
        refine wpAnyH_ready (rs := [1, 11]) (by kernel_rfl) (by simp) ?_
        refine AllReadyH.cons (by simp only [List.getElem?_toArray, List.getElem?_cons_succ, List.getElem?_cons_zero]; rfl) (fun K hK => ?_) (AllReadyH.cons (by simp only [List.getElem?_toArray, List.getElem?_cons_succ, List.getElem?_cons_zero]; rfl) (fun K hK => ?_) AllReadyH.nil)
        · have gld := G2.out
          go_simp
          clear gld
          refine hK.out _ _ ?_ (fun hHeld => ?_)
          · exact ⟨x0, x1, x2⟩
          clear hK K
          (try simp only [Act.put, List.setIfInBounds_toArray, List.set_cons_zero, List.set_cons_succ])
          refine wpAnyH_ready (rs := [11]) (by kernel_rfl) (by simp) ?_
          refine AllReadyH.cons (by simp only [List.getElem?_toArray, List.getElem?_cons_succ, List.getElem?_cons_zero]; rfl) (fun K hK => ?_) AllReadyH.nil
          go_simp
          go_at_call 82
          refine (l6Rows_any 2 (cutA a cl at') (hi - at') (cl - at') (seg l at' hi) _ ⟨by decide, by decide⟩ ((HLL.out.below HBA.out.drew).cut hah (by omega) hcl) (by omega)).mono ?_
          rintro e w2 ⟨u, rfl, o2, b2⟩
          obtain ⟨ul, HUL⟩ : ∃ ul, Hid ((kR 2 (seg l at' hi)).length = ul) := ⟨_, rfl⟩
          obtain ⟨uA, uc, rfl, hu1, _⟩ := o2.form HUL.out
          have D2 := Lib.hid (show Below wa.heap.size wa w2 from (Below.refl _ wa).drew.next b2)
          have o2b := o2.more (show w.heap.size + 3 ≤ wa.drew.heap.size from OS.out.big)
          have OS2 := Lib.hid (OS.out.below D2.out)
          clear b2
          have X2 : w2.heap[X]? = some (.cells #[.int .i64 (at' : Int), .int .i64 (go : Int), .slice Az mz cz] 64 (0, 0)) := (D2.out.block _ (Array.getElem?_eq_some_iff.1 XO.out).1).trans XO.out
          refine hK.out _ _ ?_ (fun hHeld => ?_)
          · exact ⟨by simp [World.cell?, X2], by simp [World.cell?, X2], by simp [World.cell?, X2]⟩
          clear hK K
          (try simp only [Act.put, List.setIfInBounds_toArray, List.set_cons_zero, List.set_cons_succ])
          refine wpAnyH_ready (rs := [12]) (by kernel_rfl) (by simp) ?_
          refine AllReadyH.cons (by simp only [List.getElem?_toArray, List.getElem?_cons_succ, List.getElem?_cons_zero]; rfl) (fun K hK => ?_) AllReadyH.nil
          refine step_rws (.tmp 52) (.tmp 62) (w.heap.size + 3) v out1 OS2.out.own uA ul uc (kR 2 (seg l at' hi)) o2b (by have h1 := HO0.out; have h2 := HUL.out; rw [kR_len] at h2; have := LS2.out; omega) OS2.out.big rfl rfl rfl rfl ?_
          intro v3 w3 o3 g3 p3
          obtain ⟨vl, HVL⟩ : ∃ vl, Hid ((out1 ++ kR 2 (seg l at' hi)).length = vl) := ⟨_, rfl⟩
          obtain ⟨vA, vc, rfl, hv1, _⟩ := o3.form HVL.out
          have gg := OS2.out.grown g3
          rw [HGW.out] at gg
          have e2 : w3.cell? ⟨G, 2, none⟩ = some v := by simp [World.cell?, gg.2.2.1]
          have f2 : ∀ j, w3.frozen? ⟨G, j, none⟩ = false := fun j => by simp [World.frozen?, gg.2.2.1]
          have OS3 := Lib.hid (OS2.out.stored g3 o3)
          rw [HGW.out] at OS3
          have X3 : w3.heap[X]? = some (.cells #[.int .i64 (at' : Int), .int .i64 (go : Int), .slice Az mz cz] 64 (0, 0)) := x_grown X2 g3 HNE.out
          have X4 : (w3.setCell ⟨G, 2, none⟩ (.slice vA vl vc)).heap[X]? = some (.cells #[.int .i64 (at' : Int), .int .i64 (go : Int), .slice Az mz cz] 64 (0, 0)) := x_stored X3 hGX.out
          have NE3 := ne_grown HNE.out p3 (Array.getElem?_eq_some_iff.1 X2).1
          refine hK.out _ _ ?_ (fun hHeld => ?_)
          · exact ⟨by simp [World.cell?, X3], by simp [World.cell?, X3], by simp [World.cell?, X3]⟩
          clear hK K
          (try simp only [Act.put, List.setIfInBounds_toArray, List.set_cons_zero, List.set_cons_succ])
          refine wpAnyH_take (i := 13) (v := ?_) (by simp only [List.getElem?_toArray, List.getElem?_cons_succ, List.getElem?_cons_zero]; rfl) (by kernel_rfl) (by kernel_rfl) (by kernel_rfl) (by exact fun _ _ _ h => h) (Or.inl ⟨by rfl, ?_⟩) hHeld ?_
          rotate_left 1
          · (intro w hSw; (try dsimp only at hSw); go_simp; (try with_reducible rfl))
          (try simp only [Act.put, List.setIfInBounds_toArray, List.set_cons_zero, List.set_cons_succ])
          refine wpAnyH_ready (rs := [14]) (by kernel_rfl) (by simp) ?_
          refine AllReadyH.cons (by simp only [List.getElem?_toArray, List.getElem?_cons_succ, List.getElem?_cons_zero]; rfl) (fun K hK => ?_) AllReadyH.nil
          go_simp
          refine hK.out _ _ ?_ (fun hHeld => ?_)
          · exact ⟨by simp [World.cell?, X4], by simp [World.cell?, X4], by simp [World.cell?, X4]⟩
          clear hK K
          (try simp only [Act.put, List.setIfInBounds_toArray, List.set_cons_zero, List.set_cons_succ])
          refine wpAnyH_done (by kernel_rfl) ?_ _
          clear hHeld
          go_wp2_with fail
          go_meet
          case rel => exact ⟨_, OS3.out, X4, NE3⟩
        · go_simp
          go_at_call 82
          refine (l6Rows_any 2 (cutA a cl at') (hi - at') (cl - at') (seg l at' hi) _ ⟨by decide, by decide⟩ ((HLL.out.below HBA.out.drew).cut hah (by omega) hcl) (by omega)).mono ?_
          rintro e w2 ⟨u, rfl, o2, b2⟩
          obtain ⟨ul, HUL⟩ : ∃ ul, Hid ((kR 2 (seg l at' hi)).length = ul) := ⟨_, rfl⟩
          obtain ⟨uA, uc, rfl, hu1, _⟩ := o2.form HUL.out
          have D2 := Lib.hid (show Below wa.heap.size wa w2 from (Below.refl _ wa).drew.next b2)
          have o2b := o2.more (show w.heap.size + 3 ≤ wa.drew.heap.size from OS.out.big)
          have OS2 := Lib.hid (OS.out.below D2.out)
          clear b2
          have X2 : w2.heap[X]? = some (.cells #[.int .i64 (at' : Int), .int .i64 (go : Int), .slice Az mz cz] 64 (0, 0)) := (D2.out.block _ (Array.getElem?_eq_some_iff.1 XO.out).1).trans XO.out
          refine hK.out _ _ ?_ (fun hHeld => ?_)
          · exact ⟨by simp [World.cell?, X2], by simp [World.cell?, X2], by simp [World.cell?, X2]⟩
          clear hK K
          (try simp only [Act.put, List.setIfInBounds_toArray, List.set_cons_zero, List.set_cons_succ])
          refine wpAnyH_ready (rs := [1]) (by kernel_rfl) (by simp) ?_
          refine AllReadyH.cons (by simp only [List.getElem?_toArray, List.getElem?_cons_succ, List.getElem?_cons_zero]; rfl) (fun K hK => ?_) AllReadyH.nil
          have gld := cell_keep D2.out G2.out
          go_simp
          clear gld
          refine hK.out _ _ ?_ (fun hHeld => ?_)
          · exact ⟨by simp [World.cell?, X2], by simp [World.cell?, X2], by simp [World.cell?, X2]⟩
          clear hK K
          (try simp only [Act.put, List.setIfInBounds_toArray, List.set_cons_zero, List.set_cons_succ])
          refine wpAnyH_ready (rs := [12]) (by kernel_rfl) (by simp) ?_
          refine AllReadyH.cons (by simp only [List.getElem?_toArray, List.getElem?_cons_succ, List.getElem?_cons_zero]; rfl) (fun K hK => ?_) AllReadyH.nil
          refine step_rws (.tmp 52) (.tmp 62) (w.heap.size + 3) v out1 OS2.out.own uA ul uc (kR 2 (seg l at' hi)) o2b (by have h1 := HO0.out; have h2 := HUL.out; rw [kR_len] at h2; have := LS2.out; omega) OS2.out.big rfl rfl rfl rfl ?_
          intro v3 w3 o3 g3 p3
          obtain ⟨vl, HVL⟩ : ∃ vl, Hid ((out1 ++ kR 2 (seg l at' hi)).length = vl) := ⟨_, rfl⟩
          obtain ⟨vA, vc, rfl, hv1, _⟩ := o3.form HVL.out
          have gg := OS2.out.grown g3
          rw [HGW.out] at gg
          have e2 : w3.cell? ⟨G, 2, none⟩ = some v := by simp [World.cell?, gg.2.2.1]
          have f2 : ∀ j, w3.frozen? ⟨G, j, none⟩ = false := fun j => by simp [World.frozen?, gg.2.2.1]
          have OS3 := Lib.hid (OS2.out.stored g3 o3)
          rw [HGW.out] at OS3
          have X3 : w3.heap[X]? = some (.cells #[.int .i64 (at' : Int), .int .i64 (go : Int), .slice Az mz cz] 64 (0, 0)) := x_grown X2 g3 HNE.out
          have X4 : (w3.setCell ⟨G, 2, none⟩ (.slice vA vl vc)).heap[X]? = some (.cells #[.int .i64 (at' : Int), .int .i64 (go : Int), .slice Az mz cz] 64 (0, 0)) := x_stored X3 hGX.out
          have NE3 := ne_grown HNE.out p3 (Array.getElem?_eq_some_iff.1 X2).1
          refine hK.out _ _ ?_ (fun hHeld => ?_)
          · exact ⟨by simp [World.cell?, X3], by simp [World.cell?, X3], by simp [World.cell?, X3]⟩
          clear hK K
          (try simp only [Act.put, List.setIfInBounds_toArray, List.set_cons_zero, List.set_cons_succ])
          refine wpAnyH_take (i := 13) (v := ?_) (by simp only [List.getElem?_toArray, List.getElem?_cons_succ, List.getElem?_cons_zero]; rfl) (by kernel_rfl) (by kernel_rfl) (by kernel_rfl) (by exact fun _ _ _ h => h) (Or.inl ⟨by rfl, ?_⟩) hHeld ?_
          rotate_left 1
          · (intro w hSw; (try dsimp only at hSw); go_simp; (try with_reducible rfl))
          (try simp only [Act.put, List.setIfInBounds_toArray, List.set_cons_zero, List.set_cons_succ])
          refine wpAnyH_ready (rs := [14]) (by kernel_rfl) (by simp) ?_
          refine AllReadyH.cons (by simp only [List.getElem?_toArray, List.getElem?_cons_succ, List.getElem?_cons_zero]; rfl) (fun K hK => ?_) AllReadyH.nil
          go_simp
          refine hK.out _ _ ?_ (fun hHeld => ?_)
          · exact ⟨by simp [World.cell?, X4], by simp [World.cell?, X4], by simp [World.cell?, X4]⟩
          clear hK K
          (try simp only [Act.put, List.setIfInBounds_toArray, List.set_cons_zero, List.set_cons_succ])
          refine wpAnyH_done (by kernel_rfl) ?_ _
          clear hHeld
          go_wp2_with fail
          go_meet
          case rel => exact ⟨_, OS3.out, X4, NE3⟩
      case rest => as_aux_lemma =>
      obtain ⟨v, os', xo', ne'⟩ := hcut
      clear OS XO HNE HO0 HBA
      obtain ⟨wa, hwa⟩ : ∃ wa, wa = wc := ⟨_, rfl⟩
      subst hwa
      obtain ⟨out2, Hout2⟩ : ∃ o, Hid (out1 ++ kR 2 (seg l at' hi) = o) := ⟨_, rfl⟩
      rw [Hout2.out] at os'
      have OS := Lib.hid os'
      have XO := Lib.hid xo'
      have HNE := Lib.hid ne'
      have HBA := Lib.hid os'.low
      have HO0 := Lib.hid (show out2.length ≤ 2480 by rw [← Hout2.out, List.length_append, kR_len]; have := LS2.out;  have := Lout1; omega)
      have Lout2 := HO0.out
      clear os' xo' ne'
      go_upto_region 10 with fail
      go_cut [] (fun wx => ∃ v', OneSt w wx Y (F : Int) T v' (out2 ++ kR 3 (zn)) ∧ wx.heap[X]? = some (.cells #[.int .i64 (at' : Int), .int .i64 (go : Int), .slice Az mz cz] 64 (0, 0)) ∧ v'.ownBlock ≠ some X)
      case first => as_aux_lemma =>
        have x0 : wa.cell? ⟨X, 0, none⟩ = some (.int .i64 (at' : Int)) := by simp [World.cell?, XO.out]
        have x1 : wa.cell? ⟨X, 1, none⟩ = some (.int .i64 (go : Int)) := by simp [World.cell?, XO.out]
        have x2 : wa.cell? ⟨X, 2, none⟩ = some (.slice Az mz cz) := by simp [World.cell?, XO.out]
        have G2 := Lib.hid (show wa.cell? ⟨G, 2, none⟩ = some v by rw [← HGW.out]; exact OS.out.rows.1)
        go_wp2
        refine wp_region_held_drew (S := fun w' => w'.cell? ⟨X, 0, none⟩ = some (.int .i64 (at' : Int)) ∧ w'.cell? ⟨X, 1, none⟩ = some (.int .i64 (go : Int)) ∧ w'.cell? ⟨X, 2, none⟩ = some (.slice Az mz cz)) (by kernel_rfl) ?_ (fun hHeld => ?_)
        · exact ⟨x0, x1, x2⟩
        refine wpAnyH_take (i := 0) (v := ?_) (by simp only [List.getElem?_toArray, List.getElem?_cons_succ, List.getElem?_cons_zero]; rfl) (by kernel_rfl) (by kernel_rfl) (by kernel_rfl) (by exact fun _ _ _ h => h) (Or.inl ⟨by rfl, ?_⟩) hHeld ?_
        rotate_left 1
        · (intro w hSw; (try dsimp only at hSw); go_simp; (try with_reducible rfl))
        (try simp only [Act.put, List.setIfInBounds_toArray, List.set_cons_zero, List.set_cons_succ])
        refine wpAnyH_take (i := 2) (v := ?_) (by simp only [List.getElem?_toArray, List.getElem?_cons_succ, List.getElem?_cons_zero]; rfl) (by kernel_rfl) (by kernel_rfl) (by kernel_rfl) (by exact fun _ _ _ h => h) (Or.inl ⟨by rfl, ?_⟩) hHeld ?_
        rotate_left 1
        · (intro w hSw; (try dsimp only at hSw); go_simp; (try with_reducible rfl))
        (try simp only [Act.put, List.setIfInBounds_toArray, List.set_cons_zero, List.set_cons_succ])
        refine wpAnyH_take (i := 3) (v := ?_) (by simp only [List.getElem?_toArray, List.getElem?_cons_succ, List.getElem?_cons_zero]; rfl) (by kernel_rfl) (by kernel_rfl) (by kernel_rfl) (by exact fun _ _ _ h => h) (Or.inl ⟨by rfl, ?_⟩) hHeld ?_
        rotate_left 1
        · (intro w hSw; (try dsimp only at hSw); go_simp; (try with_reducible rfl))
        (try simp only [Act.put, List.setIfInBounds_toArray, List.set_cons_zero, List.set_cons_succ])
        refine wpAnyH_ready (rs := [1, 4]) (by kernel_rfl) (by simp) ?_
        refine AllReadyH.cons (by simp only [List.getElem?_toArray, List.getElem?_cons_succ, List.getElem?_cons_zero]; rfl) (fun K hK => ?_) (AllReadyH.cons (by simp only [List.getElem?_toArray, List.getElem?_cons_succ, List.getElem?_cons_zero]; rfl) (fun K hK => ?_) AllReadyH.nil)
        · have gld := G2.out
          go_simp
          clear gld
          refine hK.out _ _ ?_ (fun hHeld => ?_)
          · exact ⟨x0, x1, x2⟩
          clear hK K
          (try simp only [Act.put, List.setIfInBounds_toArray, List.set_cons_zero, List.set_cons_succ])
          refine wpAnyH_ready (rs := [4]) (by kernel_rfl) (by simp) ?_
          refine AllReadyH.cons (by simp only [List.getElem?_toArray, List.getElem?_cons_succ, List.getElem?_cons_zero]; rfl) (fun K hK => ?_) AllReadyH.nil
          go_simp
          go_at_call 82
          refine (l6Rows_any 3 Az mz cz zn _ ⟨by decide, by decide⟩ (HST.out.below HBA.out.drew) (by omega)).mono ?_
          rintro e w2 ⟨u, rfl, o2, b2⟩
          obtain ⟨ul, HUL⟩ : ∃ ul, Hid ((kR 3 (zn)).length = ul) := ⟨_, rfl⟩
          obtain ⟨uA, uc, rfl, hu1, _⟩ := o2.form HUL.out
          have D2 := Lib.hid (show Below wa.heap.size wa w2 from (Below.refl _ wa).drew.next b2)
          have o2b := o2.more (show w.heap.size + 3 ≤ wa.drew.heap.size from OS.out.big)
          have OS2 := Lib.hid (OS.out.below D2.out)
          clear b2
          have X2 : w2.heap[X]? = some (.cells #[.int .i64 (at' : Int), .int .i64 (go : Int), .slice Az mz cz] 64 (0, 0)) := (D2.out.block _ (Array.getElem?_eq_some_iff.1 XO.out).1).trans XO.out
          refine hK.out _ _ ?_ (fun hHeld => ?_)
          · exact ⟨by simp [World.cell?, X2], by simp [World.cell?, X2], by simp [World.cell?, X2]⟩
          clear hK K
          (try simp only [Act.put, List.setIfInBounds_toArray, List.set_cons_zero, List.set_cons_succ])
          refine wpAnyH_ready (rs := [5]) (by kernel_rfl) (by simp) ?_
          refine AllReadyH.cons (by simp only [List.getElem?_toArray, List.getElem?_cons_succ, List.getElem?_cons_zero]; rfl) (fun K hK => ?_) AllReadyH.nil
          refine step_rws (.tmp 66) (.tmp 69) (w.heap.size + 3) v out2 OS2.out.own uA ul uc (kR 3 (zn)) o2b (by have h1 := HO0.out; have h2 := HUL.out; rw [kR_len] at h2; have := HM.out; omega) OS2.out.big rfl rfl rfl rfl ?_
          intro v3 w3 o3 g3 p3
          obtain ⟨vl, HVL⟩ : ∃ vl, Hid ((out2 ++ kR 3 (zn)).length = vl) := ⟨_, rfl⟩
          obtain ⟨vA, vc, rfl, hv1, _⟩ := o3.form HVL.out
          have gg := OS2.out.grown g3
          rw [HGW.out] at gg
          have e2 : w3.cell? ⟨G, 2, none⟩ = some v := by simp [World.cell?, gg.2.2.1]
          have f2 : ∀ j, w3.frozen? ⟨G, j, none⟩ = false := fun j => by simp [World.frozen?, gg.2.2.1]
          have OS3 := Lib.hid (OS2.out.stored g3 o3)
          rw [HGW.out] at OS3
          have X3 : w3.heap[X]? = some (.cells #[.int .i64 (at' : Int), .int .i64 (go : Int), .slice Az mz cz] 64 (0, 0)) := x_grown X2 g3 HNE.out
          have X4 : (w3.setCell ⟨G, 2, none⟩ (.slice vA vl vc)).heap[X]? = some (.cells #[.int .i64 (at' : Int), .int .i64 (go : Int), .slice Az mz cz] 64 (0, 0)) := x_stored X3 hGX.out
          have NE3 := ne_grown HNE.out p3 (Array.getElem?_eq_some_iff.1 X2).1
          refine hK.out _ _ ?_ (fun hHeld => ?_)
          · exact ⟨by simp [World.cell?, X3], by simp [World.cell?, X3], by simp [World.cell?, X3]⟩
          clear hK K
          (try simp only [Act.put, List.setIfInBounds_toArray, List.set_cons_zero, List.set_cons_succ])
          refine wpAnyH_take (i := 6) (v := ?_) (by simp only [List.getElem?_toArray, List.getElem?_cons_succ, List.getElem?_cons_zero]; rfl) (by kernel_rfl) (by kernel_rfl) (by kernel_rfl) (by exact fun _ _ _ h => h) (Or.inl ⟨by rfl, ?_⟩) hHeld ?_
          rotate_left 1
          · (intro w hSw; (try dsimp only at hSw); go_simp; (try with_reducible rfl))
          (try simp only [Act.put, List.setIfInBounds_toArray, List.set_cons_zero, List.set_cons_succ])
          refine wpAnyH_ready (rs := [7]) (by kernel_rfl) (by simp) ?_
          refine AllReadyH.cons (by simp only [List.getElem?_toArray, List.getElem?_cons_succ, List.getElem?_cons_zero]; rfl) (fun K hK => ?_) AllReadyH.nil
          go_simp
          refine hK.out _ _ ?_ (fun hHeld => ?_)
          · exact ⟨by simp [World.cell?, X4], by simp [World.cell?, X4], by simp [World.cell?, X4]⟩
          clear hK K
          (try simp only [Act.put, List.setIfInBounds_toArray, List.set_cons_zero, List.set_cons_succ])
          refine wpAnyH_done (by kernel_rfl) ?_ _
          clear hHeld
          go_wp2_with fail
          go_meet
          case rel => exact ⟨_, OS3.out, X4, NE3⟩
        · go_simp
          go_at_call 82
          refine (l6Rows_any 3 Az mz cz zn _ ⟨by decide, by decide⟩ (HST.out.below HBA.out.drew) (by omega)).mono ?_
          rintro e w2 ⟨u, rfl, o2, b2⟩
          obtain ⟨ul, HUL⟩ : ∃ ul, Hid ((kR 3 (zn)).length = ul) := ⟨_, rfl⟩
          obtain ⟨uA, uc, rfl, hu1, _⟩ := o2.form HUL.out
          have D2 := Lib.hid (show Below wa.heap.size wa w2 from (Below.refl _ wa).drew.next b2)
          have o2b := o2.more (show w.heap.size + 3 ≤ wa.drew.heap.size from OS.out.big)
          have OS2 := Lib.hid (OS.out.below D2.out)
          clear b2
          have X2 : w2.heap[X]? = some (.cells #[.int .i64 (at' : Int), .int .i64 (go : Int), .slice Az mz cz] 64 (0, 0)) := (D2.out.block _ (Array.getElem?_eq_some_iff.1 XO.out).1).trans XO.out
          refine hK.out _ _ ?_ (fun hHeld => ?_)
          · exact ⟨by simp [World.cell?, X2], by simp [World.cell?, X2], by simp [World.cell?, X2]⟩
          clear hK K
          (try simp only [Act.put, List.setIfInBounds_toArray, List.set_cons_zero, List.set_cons_succ])
          refine wpAnyH_ready (rs := [1]) (by kernel_rfl) (by simp) ?_
          refine AllReadyH.cons (by simp only [List.getElem?_toArray, List.getElem?_cons_succ, List.getElem?_cons_zero]; rfl) (fun K hK => ?_) AllReadyH.nil
          have gld := cell_keep D2.out G2.out
          go_simp
          clear gld
          refine hK.out _ _ ?_ (fun hHeld => ?_)
          · exact ⟨by simp [World.cell?, X2], by simp [World.cell?, X2], by simp [World.cell?, X2]⟩
          clear hK K
          (try simp only [Act.put, List.setIfInBounds_toArray, List.set_cons_zero, List.set_cons_succ])
          refine wpAnyH_ready (rs := [5]) (by kernel_rfl) (by simp) ?_
          refine AllReadyH.cons (by simp only [List.getElem?_toArray, List.getElem?_cons_succ, List.getElem?_cons_zero]; rfl) (fun K hK => ?_) AllReadyH.nil
          refine step_rws (.tmp 66) (.tmp 69) (w.heap.size + 3) v out2 OS2.out.own uA ul uc (kR 3 (zn)) o2b (by have h1 := HO0.out; have h2 := HUL.out; rw [kR_len] at h2; have := HM.out; omega) OS2.out.big rfl rfl rfl rfl ?_
          intro v3 w3 o3 g3 p3
          obtain ⟨vl, HVL⟩ : ∃ vl, Hid ((out2 ++ kR 3 (zn)).length = vl) := ⟨_, rfl⟩
          obtain ⟨vA, vc, rfl, hv1, _⟩ := o3.form HVL.out
          have gg := OS2.out.grown g3
          rw [HGW.out] at gg
          have e2 : w3.cell? ⟨G, 2, none⟩ = some v := by simp [World.cell?, gg.2.2.1]
          have f2 : ∀ j, w3.frozen? ⟨G, j, none⟩ = false := fun j => by simp [World.frozen?, gg.2.2.1]
          have OS3 := Lib.hid (OS2.out.stored g3 o3)
          rw [HGW.out] at OS3
          have X3 : w3.heap[X]? = some (.cells #[.int .i64 (at' : Int), .int .i64 (go : Int), .slice Az mz cz] 64 (0, 0)) := x_grown X2 g3 HNE.out
          have X4 : (w3.setCell ⟨G, 2, none⟩ (.slice vA vl vc)).heap[X]? = some (.cells #[.int .i64 (at' : Int), .int .i64 (go : Int), .slice Az mz cz] 64 (0, 0)) := x_stored X3 hGX.out
          have NE3 := ne_grown HNE.out p3 (Array.getElem?_eq_some_iff.1 X2).1
          refine hK.out _ _ ?_ (fun hHeld => ?_)
          · exact ⟨by simp [World.cell?, X3], by simp [World.cell?, X3], by simp [World.cell?, X3]⟩
          clear hK K
          (try simp only [Act.put, List.setIfInBounds_toArray, List.set_cons_zero, List.set_cons_succ])
          refine wpAnyH_take (i := 6) (v := ?_) (by simp only [List.getElem?_toArray, List.getElem?_cons_succ, List.getElem?_cons_zero]; rfl) (by kernel_rfl) (by kernel_rfl) (by kernel_rfl) (by exact fun _ _ _ h => h) (Or.inl ⟨by rfl, ?_⟩) hHeld ?_
          rotate_left 1
          · (intro w hSw; (try dsimp only at hSw); go_simp; (try with_reducible rfl))
          (try simp only [Act.put, List.setIfInBounds_toArray, List.set_cons_zero, List.set_cons_succ])
          refine wpAnyH_ready (rs := [7]) (by kernel_rfl) (by simp) ?_
          refine AllReadyH.cons (by simp only [List.getElem?_toArray, List.getElem?_cons_succ, List.getElem?_cons_zero]; rfl) (fun K hK => ?_) AllReadyH.nil
          go_simp
          refine hK.out _ _ ?_ (fun hHeld => ?_)
          · exact ⟨by simp [World.cell?, X4], by simp [World.cell?, X4], by simp [World.cell?, X4]⟩
          clear hK K
          (try simp only [Act.put, List.setIfInBounds_toArray, List.set_cons_zero, List.set_cons_succ])
          refine wpAnyH_done (by kernel_rfl) ?_ _
          clear hHeld
          go_wp2_with fail
          go_meet
          case rel => exact ⟨_, OS3.out, X4, NE3⟩
      case rest => as_aux_lemma =>
      obtain ⟨v, os', xo', ne'⟩ := hcut
      clear OS XO HNE HO0 HBA
      obtain ⟨wa, hwa⟩ : ∃ wa, wa = wc := ⟨_, rfl⟩
      subst hwa
      obtain ⟨out3, Hout3⟩ : ∃ o, Hid (out2 ++ kR 3 (zn) = o) := ⟨_, rfl⟩
      rw [Hout3.out] at os'
      have OS := Lib.hid os'
      have XO := Lib.hid xo'
      have HNE := Lib.hid ne'
      have HBA := Lib.hid os'.low
      have HO0 := Lib.hid (show out3.length ≤ 2520 by rw [← Hout3.out, List.length_append, kR_len]; have := HM.out;  have := Lout2; omega)
      have Lout3 := HO0.out
      clear os' xo' ne'
      have x0 : wa.cell? ⟨X, 0, none⟩ = some (.int .i64 (at' : Int)) := by simp [World.cell?, XO.out]
      have x1 : wa.cell? ⟨X, 1, none⟩ = some (.int .i64 (go : Int)) := by simp [World.cell?, XO.out]
      have HEND := Lib.hid (show out3 ++ rowsM l E hi (hs.drop (j + 1)) = rowsM l E F hs by
        have h5 := hstep.out
        try dsimp only at h5
        rw [Int.toNat_natCast, show ((at' : Int) + (go : Int)).toNat = hi from by rw [Hhi.out]; omega] at h5
        rw [← Hout3.out, ← Hout2.out, ← Hout1.out, ← HP.out, h5]
        simp only [List.append_assoc])
      have HLEN := Lib.hid (show out3.length ≤ 120 * (j + 1) by
        rw [← Hout3.out, ← Hout2.out, ← Hout1.out]; simp only [List.length_append, kR_len, LS1.out, LS2.out, HM.out]; have := HO.out; omega)
      go_wp2
      go_roundw
      case rel => exact ⟨v, out3, j + 1, hi, by go_num, rfl, by omega, hhn, OS.out, HLEN.out, HREST.out, HEND.out⟩
      case measure => simp [intOf]; omega
    · have hlst := OS0.out.lst
      rw [HLW.out, ← HY.out] at hlst
      have y0 : wr.cell? ⟨LB, 0, none⟩ = some (.int .i64 ya) := by simp [World.cell?, hlst]
      have y1 : wr.cell? ⟨LB, 1, none⟩ = some (.int .i64 yg) := by simp [World.cell?, hlst]
      have hcut := cut_strs a nl cl p E hp (by omega)
      have hfin := Lib.hid (show out ++ kR 1 (seg l p E) = rowsM l E F hs by rw [← HP.out, rowsM_end (by rw [HN.out]; omega)])
      have hlen0 : out.length ≤ 2400 := by have := HO.out; omega
      have HO0 := Lib.hid hlen0
      have LS1 := Lib.hid (seg_len l p E)
      clear hlst
      go_wp2_with fail
      refine (l1LeastH_any _ _ _).mono ?_
      rintro e w' ⟨rfl, rfl⟩
      rw [HME.out]
      go_wp2
      clear y0 y1
      obtain ⟨wa, hwa⟩ : ∃ wa, wa = wr := ⟨_, rfl⟩
      subst hwa
      have OS := Lib.hid OS0.out
      have HBA := Lib.hid OS0.out.low
      have G2 := Lib.hid (show wa.cell? ⟨G, 2, none⟩ = some v by rw [← HGW.out]; exact OS.out.rows.1)
      refine wp_region_held_drew (S := fun _ => True) (by kernel_rfl) ?_ (fun hHeld => ?_)
      · exact trivial
      refine wpAnyH_take (i := 0) (v := ?_) (by simp only [List.getElem?_toArray, List.getElem?_cons_succ, List.getElem?_cons_zero]; rfl) (by kernel_rfl) (by kernel_rfl) (by kernel_rfl) (by exact fun _ _ _ h => h) (Or.inl ⟨by rfl, ?_⟩) hHeld ?_
      rotate_left 1
      · (intro w hSw; (try dsimp only at hSw); go_simp; (try with_reducible rfl))
      (try simp only [Act.put, List.setIfInBounds_toArray, List.set_cons_zero, List.set_cons_succ])
      refine wpAnyH_take (i := 2) (v := ?_) (by simp only [List.getElem?_toArray, List.getElem?_cons_succ, List.getElem?_cons_zero]; rfl) (by kernel_rfl) (by kernel_rfl) (by kernel_rfl) (by exact fun _ _ _ h => h) (Or.inl ⟨by rfl, ?_⟩) hHeld ?_
      rotate_left 1
      · (intro w hSw; (try dsimp only at hSw); go_simp; (try with_reducible rfl))
      (try simp only [Act.put, List.setIfInBounds_toArray, List.set_cons_zero, List.set_cons_succ])
      refine wpAnyH_take (i := 3) (v := ?_) (by simp only [List.getElem?_toArray, List.getElem?_cons_succ, List.getElem?_cons_zero]; rfl) (by kernel_rfl) (by kernel_rfl) (by kernel_rfl) (by exact fun _ _ _ h => h) (Or.inl ⟨by rfl, ?_⟩) hHeld ?_
      rotate_left 1
      · (intro w hSw; (try dsimp only at hSw); go_simp; (try with_reducible rfl))
      (try simp only [Act.put, List.setIfInBounds_toArray, List.set_cons_zero, List.set_cons_succ])
      refine wpAnyH_take (i := 4) (v := ?_) (by simp only [List.getElem?_toArray, List.getElem?_cons_succ, List.getElem?_cons_zero]; rfl) (by kernel_rfl) (by kernel_rfl) (by kernel_rfl) (by exact fun _ _ _ h => h) (Or.inl ⟨by rfl, ?_⟩) hHeld ?_
      rotate_left 1
      · (intro w hSw; (try dsimp only at hSw); go_simp; (try with_reducible rfl))
      (try simp only [Act.put, List.setIfInBounds_toArray, List.set_cons_zero, List.set_cons_succ])
      refine wpAnyH_take (i := 5) (v := ?_) (by simp only [List.getElem?_toArray, List.getElem?_cons_succ, List.getElem?_cons_zero]; rfl) (by kernel_rfl) (by kernel_rfl) (by kernel_rfl) (by exact fun _ _ _ h => h) (Or.inl ⟨by rfl, ?_⟩) hHeld ?_
      rotate_left 1
      · (intro w hSw; (try dsimp only at hSw); go_simp; (try with_reducible rfl))
      (try simp only [Act.put, List.setIfInBounds_toArray, List.set_cons_zero, List.set_cons_succ])
      refine wpAnyH_ready (rs := [1, 6]) (by kernel_rfl) (by simp) ?_
      refine AllReadyH.cons (by simp only [List.getElem?_toArray, List.getElem?_cons_succ, List.getElem?_cons_zero]; rfl) (fun K hK => ?_) (AllReadyH.cons (by simp only [List.getElem?_toArray, List.getElem?_cons_succ, List.getElem?_cons_zero]; rfl) (fun K hK => ?_) AllReadyH.nil)
      · have gld := G2.out
        go_simp
        clear gld
        refine hK.out _ _ ?_ (fun hHeld => ?_)
        · exact trivial
        clear hK K
        (try simp only [Act.put, List.setIfInBounds_toArray, List.set_cons_zero, List.set_cons_succ])
        refine wpAnyH_ready (rs := [6]) (by kernel_rfl) (by simp) ?_
        refine AllReadyH.cons (by simp only [List.getElem?_toArray, List.getElem?_cons_succ, List.getElem?_cons_zero]; rfl) (fun K hK => ?_) AllReadyH.nil
        go_simp
        go_at_call 82
        refine (l6Rows_any 1 (cutA a cl p) (E - p) (cl - p) (seg l p E) _ ⟨by decide, by decide⟩ ((HLL.out.below HBA.out.drew).cut hp (by omega) hcl) (by omega)).mono ?_
        rintro e w2 ⟨u, rfl, o2, b2⟩
        obtain ⟨ul, HUL⟩ : ∃ ul, Hid ((kR 1 (seg l p E)).length = ul) := ⟨_, rfl⟩
        obtain ⟨uA, uc, rfl, hu1, _⟩ := o2.form HUL.out
        have D2 := Lib.hid (show Below wa.heap.size wa w2 from (Below.refl _ wa).drew.next b2)
        have o2b := o2.more (show w.heap.size + 3 ≤ wa.drew.heap.size from OS.out.big)
        have OS2 := Lib.hid (OS.out.below D2.out)
        clear b2
        refine hK.out _ _ ?_ (fun hHeld => ?_)
        · exact trivial
        clear hK K
        (try simp only [Act.put, List.setIfInBounds_toArray, List.set_cons_zero, List.set_cons_succ])
        refine wpAnyH_ready (rs := [7]) (by kernel_rfl) (by simp) ?_
        refine AllReadyH.cons (by simp only [List.getElem?_toArray, List.getElem?_cons_succ, List.getElem?_cons_zero]; rfl) (fun K hK => ?_) AllReadyH.nil
        refine step_rws (.tmp 89) (.tmp 94) (w.heap.size + 3) v out OS2.out.own uA ul uc (kR 1 (seg l p E)) o2b (by have h1 := HO0.out; have h2 := HUL.out; rw [kR_len] at h2; have := LS1.out; omega) OS2.out.big rfl rfl rfl rfl ?_
        intro v3 w3 o3 g3 p3
        obtain ⟨vl, HVL⟩ : ∃ vl, Hid ((out ++ kR 1 (seg l p E)).length = vl) := ⟨_, rfl⟩
        obtain ⟨vA, vc, rfl, hv1, _⟩ := o3.form HVL.out
        have gg := OS2.out.grown g3
        rw [HGW.out] at gg
        have e2 : w3.cell? ⟨G, 2, none⟩ = some v := by simp [World.cell?, gg.2.2.1]
        have f2 : ∀ j, w3.frozen? ⟨G, j, none⟩ = false := fun j => by simp [World.frozen?, gg.2.2.1]
        have OS3 := Lib.hid (OS2.out.stored g3 o3)
        rw [HGW.out] at OS3
        refine hK.out _ _ ?_ (fun hHeld => ?_)
        · exact trivial
        clear hK K
        (try simp only [Act.put, List.setIfInBounds_toArray, List.set_cons_zero, List.set_cons_succ])
        refine wpAnyH_take (i := 8) (v := ?_) (by simp only [List.getElem?_toArray, List.getElem?_cons_succ, List.getElem?_cons_zero]; rfl) (by kernel_rfl) (by kernel_rfl) (by kernel_rfl) (by exact fun _ _ _ h => h) (Or.inl ⟨by rfl, ?_⟩) hHeld ?_
        rotate_left 1
        · (intro w hSw; (try dsimp only at hSw); go_simp; (try with_reducible rfl))
        (try simp only [Act.put, List.setIfInBounds_toArray, List.set_cons_zero, List.set_cons_succ])
        refine wpAnyH_ready (rs := [9]) (by kernel_rfl) (by simp) ?_
        refine AllReadyH.cons (by simp only [List.getElem?_toArray, List.getElem?_cons_succ, List.getElem?_cons_zero]; rfl) (fun K hK => ?_) AllReadyH.nil
        go_simp
        refine hK.out _ _ ?_ (fun hHeld => ?_)
        · exact trivial
        clear hK K
        (try simp only [Act.put, List.setIfInBounds_toArray, List.set_cons_zero, List.set_cons_succ])
        refine wpAnyH_done (by kernel_rfl) ?_ _
        clear hHeld
        obtain ⟨w4, HW4⟩ : ∃ w4, Hid (w4 = w3.setCell ⟨G, 2, none⟩ (.slice vA vl vc)) := ⟨_, rfl⟩
        rw [← HW4.out] at OS3 ⊢
        have hgrp := OS3.out.grp
        have hres := OS3.out.res
        rw [HGW.out] at hgrp
        have g0 : w4.cell? ⟨G, 0, none⟩ = some (.int .i64 (F : Int)) := by simp [World.cell?, hgrp]
        have g1 : w4.cell? ⟨G, 1, none⟩ = some (.int .i64 T) := by simp [World.cell?, hgrp]
        have g2 : w4.cell? ⟨G, 2, none⟩ = some (.slice vA vl vc) := by simp [World.cell?, hgrp]
        have r0 : w4.cell? ⟨w.heap.size, 0, none⟩ = some (.int .i64 0) := by simp [World.cell?, hres]
        have r1 : w4.cell? ⟨w.heap.size, 1, none⟩ = some (.int .i64 0) := by simp [World.cell?, hres]
        have r2 : w4.cell? ⟨w.heap.size, 2, none⟩ = some (.slice none 0 0) := by simp [World.cell?, hres]
        have rf : ∀ j, w4.frozen? ⟨w.heap.size, j, none⟩ = false := fun j => by simp [World.frozen?, hres]
        have hown : OwnRw w4 (w.heap.size + 3) (.slice vA vl vc) (rowsM l E F hs) := by have h5 := OS3.out.own; rw [hfin.out] at h5; exact h5
        have hlow := OS3.out.low
        clear hgrp hres e2 f2
        go_wp2
        (try simp only [Exit.inBlock, Exit.then])
        refine bodyPost_ret (v := .agg #[.int .i64 (F : Int), .int .i64 T, .slice vA vl vc]) (by simp [results, Try.results65, go_sem, r0, r1, r2]) rfl ?_
        refine ⟨_, by rw [HT.out], ?_, ?_⟩
        · exact (((hown.setBelow (by simp) _).setBelow (by simp) _).setBelow (by simp) _).more (by omega)
        · exact ((hlow.setCell (by simp) _).setCell (by simp) _).setCell (by simp) _
      · go_simp
        go_at_call 82
        refine (l6Rows_any 1 (cutA a cl p) (E - p) (cl - p) (seg l p E) _ ⟨by decide, by decide⟩ ((HLL.out.below HBA.out.drew).cut hp (by omega) hcl) (by omega)).mono ?_
        rintro e w2 ⟨u, rfl, o2, b2⟩
        obtain ⟨ul, HUL⟩ : ∃ ul, Hid ((kR 1 (seg l p E)).length = ul) := ⟨_, rfl⟩
        obtain ⟨uA, uc, rfl, hu1, _⟩ := o2.form HUL.out
        have D2 := Lib.hid (show Below wa.heap.size wa w2 from (Below.refl _ wa).drew.next b2)
        have o2b := o2.more (show w.heap.size + 3 ≤ wa.drew.heap.size from OS.out.big)
        have OS2 := Lib.hid (OS.out.below D2.out)
        clear b2
        refine hK.out _ _ ?_ (fun hHeld => ?_)
        · exact trivial
        clear hK K
        (try simp only [Act.put, List.setIfInBounds_toArray, List.set_cons_zero, List.set_cons_succ])
        refine wpAnyH_ready (rs := [1]) (by kernel_rfl) (by simp) ?_
        refine AllReadyH.cons (by simp only [List.getElem?_toArray, List.getElem?_cons_succ, List.getElem?_cons_zero]; rfl) (fun K hK => ?_) AllReadyH.nil
        have gld := cell_keep D2.out G2.out
        go_simp
        clear gld
        refine hK.out _ _ ?_ (fun hHeld => ?_)
        · exact trivial
        clear hK K
        (try simp only [Act.put, List.setIfInBounds_toArray, List.set_cons_zero, List.set_cons_succ])
        refine wpAnyH_ready (rs := [7]) (by kernel_rfl) (by simp) ?_
        refine AllReadyH.cons (by simp only [List.getElem?_toArray, List.getElem?_cons_succ, List.getElem?_cons_zero]; rfl) (fun K hK => ?_) AllReadyH.nil
        refine step_rws (.tmp 89) (.tmp 94) (w.heap.size + 3) v out OS2.out.own uA ul uc (kR 1 (seg l p E)) o2b (by have h1 := HO0.out; have h2 := HUL.out; rw [kR_len] at h2; have := LS1.out; omega) OS2.out.big rfl rfl rfl rfl ?_
        intro v3 w3 o3 g3 p3
        obtain ⟨vl, HVL⟩ : ∃ vl, Hid ((out ++ kR 1 (seg l p E)).length = vl) := ⟨_, rfl⟩
        obtain ⟨vA, vc, rfl, hv1, _⟩ := o3.form HVL.out
        have gg := OS2.out.grown g3
        rw [HGW.out] at gg
        have e2 : w3.cell? ⟨G, 2, none⟩ = some v := by simp [World.cell?, gg.2.2.1]
        have f2 : ∀ j, w3.frozen? ⟨G, j, none⟩ = false := fun j => by simp [World.frozen?, gg.2.2.1]
        have OS3 := Lib.hid (OS2.out.stored g3 o3)
        rw [HGW.out] at OS3
        refine hK.out _ _ ?_ (fun hHeld => ?_)
        · exact trivial
        clear hK K
        (try simp only [Act.put, List.setIfInBounds_toArray, List.set_cons_zero, List.set_cons_succ])
        refine wpAnyH_take (i := 8) (v := ?_) (by simp only [List.getElem?_toArray, List.getElem?_cons_succ, List.getElem?_cons_zero]; rfl) (by kernel_rfl) (by kernel_rfl) (by kernel_rfl) (by exact fun _ _ _ h => h) (Or.inl ⟨by rfl, ?_⟩) hHeld ?_
        rotate_left 1
        · (intro w hSw; (try dsimp only at hSw); go_simp; (try with_reducible rfl))
        (try simp only [Act.put, List.setIfInBounds_toArray, List.set_cons_zero, List.set_cons_succ])
        refine wpAnyH_ready (rs := [9]) (by kernel_rfl) (by simp) ?_
        refine AllReadyH.cons (by simp only [List.getElem?_toArray, List.getElem?_cons_succ, List.getElem?_cons_zero]; rfl) (fun K hK => ?_) AllReadyH.nil
        go_simp
        refine hK.out _ _ ?_ (fun hHeld => ?_)
        · exact trivial
        clear hK K
        (try simp only [Act.put, List.setIfInBounds_toArray, List.set_cons_zero, List.set_cons_succ])
        refine wpAnyH_done (by kernel_rfl) ?_ _
        clear hHeld
        obtain ⟨w4, HW4⟩ : ∃ w4, Hid (w4 = w3.setCell ⟨G, 2, none⟩ (.slice vA vl vc)) := ⟨_, rfl⟩
        rw [← HW4.out] at OS3 ⊢
        have hgrp := OS3.out.grp
        have hres := OS3.out.res
        rw [HGW.out] at hgrp
        have g0 : w4.cell? ⟨G, 0, none⟩ = some (.int .i64 (F : Int)) := by simp [World.cell?, hgrp]
        have g1 : w4.cell? ⟨G, 1, none⟩ = some (.int .i64 T) := by simp [World.cell?, hgrp]
        have g2 : w4.cell? ⟨G, 2, none⟩ = some (.slice vA vl vc) := by simp [World.cell?, hgrp]
        have r0 : w4.cell? ⟨w.heap.size, 0, none⟩ = some (.int .i64 0) := by simp [World.cell?, hres]
        have r1 : w4.cell? ⟨w.heap.size, 1, none⟩ = some (.int .i64 0) := by simp [World.cell?, hres]
        have r2 : w4.cell? ⟨w.heap.size, 2, none⟩ = some (.slice none 0 0) := by simp [World.cell?, hres]
        have rf : ∀ j, w4.frozen? ⟨w.heap.size, j, none⟩ = false := fun j => by simp [World.frozen?, hres]
        have hown : OwnRw w4 (w.heap.size + 3) (.slice vA vl vc) (rowsM l E F hs) := by have h5 := OS3.out.own; rw [hfin.out] at h5; exact h5
        have hlow := OS3.out.low
        clear hgrp hres e2 f2
        go_wp2
        (try simp only [Exit.inBlock, Exit.then])
        refine bodyPost_ret (v := .agg #[.int .i64 (F : Int), .int .i64 T, .slice vA vl vc]) (by simp [results, Try.results65, go_sem, r0, r1, r2]) rfl ?_
        refine ⟨_, by rw [HT.out], ?_, ?_⟩
        · exact (((hown.setBelow (by simp) _).setBelow (by simp) _).setBelow (by simp) _).more (by omega)
        · exact ((hlow.setCell (by simp) _).setCell (by simp) _).setCell (by simp) _

end Go.Proofs.Ytgohaemmnpifbaa
