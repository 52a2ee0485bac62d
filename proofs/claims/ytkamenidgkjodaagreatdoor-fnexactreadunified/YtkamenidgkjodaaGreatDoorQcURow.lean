/-
  The program's reader of rows and of groups.
-/
import Derived.Test.YtkamenidgkjodaaGreatDoorQcURdr
set_option linter.unusedSimpArgs false
set_option linter.unusedVariables false
namespace Go.Proofs.YtkamenidgkjodaaGreatDoor
open Go.RowKit M

theorem rRow_hit {r : List UInt8 × Bool} {k : Nat} (h1 : 1 ≤ k) (h3 : k ≤ 3) (hno : ∀ j : Nat, 1 ≤ j → j < k → Lib.hasPrefix r.1 [signB j] = false) (hy : Lib.hasPrefix r.1 [signB k] = true) : rRow r = (⟨(k : Int), bs (rShown [signB k] r).1⟩, (rShown [signB k] r).2) := by
  unfold rRow
  rcases (by omega : k = 1 ∨ k = 2 ∨ k = 3) with rfl | rfl | rfl
  · have hy' : Lib.hasPrefix r.1 [32] = true := hy
    rw [if_pos hy']; rfl
  · have n1 : Lib.hasPrefix r.1 [32] = false := hno 1 (by omega) (by omega)
    have hy' : Lib.hasPrefix r.1 [45] = true := hy
    rw [n1, if_neg (by simp), if_pos hy']; rfl
  · have n1 : Lib.hasPrefix r.1 [32] = false := hno 1 (by omega) (by omega)
    have n2 : Lib.hasPrefix r.1 [45] = false := hno 2 (by omega) (by omega)
    have hy' : Lib.hasPrefix r.1 [43] = true := hy
    rw [n1, n2, if_neg (by simp), if_neg (by simp), if_pos hy']; rfl
theorem rRow_none {r : List UInt8 × Bool} (hno : ∀ j : Nat, 1 ≤ j → j < 4 → Lib.hasPrefix r.1 [signB j] = false) : rRow r = (⟨0, bs []⟩, ([], true)) := by
  have n1 : Lib.hasPrefix r.1 [32] = false := hno 1 (by omega) (by omega)
  have n2 : Lib.hasPrefix r.1 [45] = false := hno 2 (by omega) (by omega)
  have n3 : Lib.hasPrefix r.1 [43] = false := hno 3 (by omega) (by omega)
  unfold rRow
  rw [n1, n2, n3]; rfl

set_option maxHeartbeats 400000 in
theorem HasPrefixS_any (s p : ByteArray) (w : World) (hs : s.size ≤ 1048576) (hp : p.size ≤ 1048576) :
    Calls Tryz.prog 154 #[.string s, .string p] w fun e w' => e = .returned (.bool (Lib.hasPrefix s.data.toList p.data.toList)) ∧ w' = w := by
  go_enter Tryz.func154, Tryz.ntmps154
  go_wp2_with fail
  refine (HasPrefix_any s p _ hs hp).mono ?_
  rintro e w1 ⟨rfl, rfl⟩
  go_wp2
  go_ret
  exact ⟨rfl, rfl⟩

set_option maxHeartbeats 4000000 in
set_option maxRecDepth 100000 in
theorem rrow_any (W0 : World) (b : Nat) (r : List UInt8 × Bool) (w : World) (h : Rdr W0 w b r) :
    Calls Tryz.prog 127 #[.pointer (some ⟨b, 0, none⟩)] w fun e w' => e = .returned (.agg #[.int .i64 (rRow r).1.kind, .string (rRow r).1.line]) ∧ Rdr W0 w' b (rRow r).2 ∧ Wrote (fun i => i = b) w w' := by
  obtain ⟨W1, HW1⟩ : ∃ W1, Hid (W1 = w.alloc (.cells #[.int .i64 0, .string ⟨#[]⟩] 62)) := ⟨_, rfl⟩
  have HB1 := Lib.hid (show Below w.heap.size w W1 by rw [HW1.out]; exact below_alloc _ _)
  have H1 := Lib.hid (h.keep HB1.out)
  have hbl : b < w.heap.size := h.lt
  have hbR : w.heap.size ≠ b := by omega
  have HQ := Lib.hid (show W1.heap[w.heap.size]? = some (.cells #[.int .i64 0, .string ⟨#[]⟩] 62 (0, 0)) by rw [HW1.out]; exact heap_at rfl)
  have HSZ := Lib.hid (show w.heap.size < W1.heap.size by rw [HW1.out]; simp)
  have HSM := Lib.hid h.small
  have HBS := Lib.hid (bs_list r.1)
  clear h
  go_enter Tryz.func127, Tryz.ntmps127
  go_wp2
  rw [← HW1.out]
  go_loopw [3] (fun i w' => ∃ k : Nat, i = .int .i64 (k : Int) ∧ 1 ≤ k ∧ k ≤ 4 ∧ Hid (∀ j : Nat, 1 ≤ j → j < k → Lib.hasPrefix r.1 [signB j] = false) ∧ Drawn W1 w') (fun i _ => 4 - (intOf i).toNat)
  case atStart => exact ⟨1, rfl, by omega, by omega, Lib.hid (fun j h1 h2 => by omega), Drawn.refl _⟩
  case round =>
    obtain ⟨k, rfl, hk1, hk4, HNO, hd⟩ := hrel
    have HD := Lib.hid hd
    by_cases hlt : k ≤ 3
    · have HR := Lib.hid (H1.out.keep hd.below)
      have c0 := HR.out.c0
      have cs := HR.out.now.sgn.at_ hk1 hlt
      have hi0 : (k : Int) < 4 := by omega
      have hle : ((k : Int) ≤ 3) = True := eq_true (by omega)
      have HPX := Lib.hid (show ∀ nn, Calls Tryz.prog 154 #[.string (bs r.1), .string (sgnB k)] (wr.drewN nn) fun e w' => e = .returned (.bool (Lib.hasPrefix r.1 [signB k])) ∧ w' = wr.drewN nn from fun nn => by
        have := HasPrefixS_any (bs r.1) (sgnB k) (wr.drewN nn) (by rw [bs_size]; have := HSM.out; omega) (by show 1 ≤ _; omega)
        rw [HBS.out] at this
        exact this)
      cases hp : Lib.hasPrefix r.1 [signB k]
      · rw [hp] at HPX
        have HN2 := Lib.hid (show ∀ j : Nat, 1 ≤ j → j < k + 1 → Lib.hasPrefix r.1 [signB j] = false from fun j h1 h2 => by
          by_cases e : j = k
          · rw [e]; exact hp
          · exact HNO.out j h1 (by omega))
        clear hp
        go_wp2
        go_quiet ((go_at_call 154; exact Calls.quiet_of_same (HPX.out _)))
        go_wp2
        go_roundw
        case rel => exact ⟨k + 1, by go_num, by omega, by omega, HN2, HD.out.more _⟩
        case measure => simp [intOf]; omega
      · rw [hp] at HPX
        have HRR := Lib.hid (rRow_hit hk1 hlt HNO.out hp)
        clear hp
        go_wp2
        go_quiet ((go_at_call 154; exact Calls.quiet_of_same (HPX.out _)))
        have HRD := Lib.hid (show ∀ nn, Rdr W0 (wr.drewN nn) b r from fun nn => HR.out.keep (below_drewN (Below.refl _ _) nn))
        have HQD := Lib.hid (show ∀ nn, (wr.drewN nn).heap[w.heap.size]? = some (.cells #[.int .i64 0, .string ⟨#[]⟩] 62 (0, 0)) from fun nn => (((HD.out.below).next (below_drewN (Below.refl _ _) nn)).block _ HSZ.out).trans HQ.out)
        have HZD := Lib.hid (show ∀ nn, w.heap.size < (wr.drewN nn).heap.size from fun nn => (Array.getElem?_eq_some_iff.1 (HQD.out nn)).1)
        have HWD := Lib.hid (show ∀ nn, Wrote (fun i => i = b) w (wr.drewN nn) from fun nn => Wrote.of_below (HB1.out.next (HD.out.below.next (below_drewN (Below.refl _ _) nn))))
        go_wp2_with fail
        refine (rshown_any W0 b r (sgnB k) (by show 1 ≤ 100; omega) _ (HRD.out _)).mono ?_
        rintro e w5 ⟨rfl, hr5, hw5⟩
        replace hr5 : Rdr W0 w5 b (rShown [signB k] r).2 := hr5
        have HQ5 := Lib.hid ((hw5.block w.heap.size (HZD.out _) hbR).trans (HQD.out _))
        have HW5 := Lib.hid ((HWD.out _).trans hw5 (fun _ _ e => e))
        have HR5 := Lib.hid hr5
        obtain ⟨x5, HX5⟩ : ∃ x5, Hid (bs (rShown (sgnB k).data.toList r).1 = x5) := ⟨_, rfl⟩
        rw [HX5.out]
        have HX6 := Lib.hid (show bs (rShown [signB k] r).1 = x5 from HX5.out)
        have s0 : w5.cell? ⟨w.heap.size, 0, none⟩ = some (.int .i64 0) := by simp [World.cell?, HQ5.out]
        have s1 : w5.cell? ⟨w.heap.size, 1, none⟩ = some (.string ⟨#[]⟩) := by simp [World.cell?, HQ5.out]
        have sf : ∀ j, w5.frozen? ⟨w.heap.size, j, none⟩ = false := fun j => by simp [World.frozen?, HQ5.out]
        clear hr5 hw5 c0 cs
        go_wp2
        (try simp only [Exit.inBlock, Exit.then])
        refine bodyPost_ret (v := .agg #[.int .i64 (k : Int), .string x5]) (by simp [results, Tryz.results127, go_sem, s0, s1]) rfl ?_
        refine ⟨by rw [HRR.out]; dsimp only; rw [HX6.out], ?_, ?_⟩
        · rw [HRR.out]; exact (HR5.out.wrote (wset _ w.heap.size 0 _) (fun g e => by subst e; exact hbl)).wrote (wset _ w.heap.size 1 _) (fun g e => by subst e; exact hbl)
        · exact (HW5.out.trans (wset _ w.heap.size 0 _) (fun i hi e => by omega)).trans (wset _ w.heap.size 1 _) (fun i hi e => by omega)
    · have hle : ((k : Int) ≤ 3) = False := eq_false (by omega)
      have hk : k = 4 := by omega
      subst hk
      have HRR := Lib.hid (rRow_none HNO.out)
      have HR := Lib.hid (H1.out.keep hd.below)
      have HQD := Lib.hid ((HD.out.below.block _ HSZ.out).trans HQ.out)
      have HZD := Lib.hid (show w.heap.size < wr.heap.size from (Array.getElem?_eq_some_iff.1 HQD.out).1)
      have HWD := Lib.hid (show Wrote (fun i => i = b) w wr from Wrote.of_below (HB1.out.next HD.out.below))
      go_wp2_with fail
      refine (rfail_any W0 b r _ HR.out).mono ?_
      rintro e w5 ⟨rfl, hr5, hw5⟩
      have HQ5 := Lib.hid ((hw5.block w.heap.size HZD.out hbR).trans HQD.out)
      have HW5 := Lib.hid (HWD.out.trans hw5 (fun _ _ e => e))
      have HR5 := Lib.hid hr5
      have s0 : w5.cell? ⟨w.heap.size, 0, none⟩ = some (.int .i64 0) := by simp [World.cell?, HQ5.out]
      have s1 : w5.cell? ⟨w.heap.size, 1, none⟩ = some (.string ⟨#[]⟩) := by simp [World.cell?, HQ5.out]
      have sf : ∀ j, w5.frozen? ⟨w.heap.size, j, none⟩ = false := fun j => by simp [World.frozen?, HQ5.out]
      clear hr5 hw5
      go_wp2
      (try simp only [Exit.inBlock, Exit.then])
      refine bodyPost_ret (v := .agg #[.int .i64 0, .string ⟨#[]⟩]) (by simp [results, Tryz.results127, go_sem, s0, s1]) rfl ?_
      refine ⟨by rw [HRR.out]; rfl, ?_, ?_⟩
      · rw [HRR.out]; exact (HR5.out.wrote (wset _ w.heap.size 0 _) (fun g e => by subst e; exact hbl)).wrote (wset _ w.heap.size 1 _) (fun g e => by subst e; exact hbl)
      · exact (HW5.out.trans (wset _ w.heap.size 0 _) (fun i hi e => by omega)).trans (wset _ w.heap.size 1 _) (fun i hi e => by omega)

def slenU : Value → Nat
  | .slice _ n _ => n
  | _ => 0
theorem OwnRw.wrote' {w w' : World} {B b : Nat} {v : Value} {l : List Rw} (h : OwnRw w B v l) (hw : Wrote (fun i => i = b) w w') (hb : b < B) : OwnRw w' B v l := h.wrote hw (fun g e e2 => by have := (h.lt e).1; omega)

/-- What the reader of rows leaves. -/
def RowsPost (W0 : World) (b old come : Nat) (r : List UInt8 × Bool) (w : World) (e : Ending) (w' : World) : Prop := ∃ v O r2, e = .returned v ∧ OwnRw w' w.heap.size v O ∧ RowsOut old come r O r2 ∧ Rdr W0 w' b r2 ∧ Wrote (fun i => i = b) w w'

set_option maxHeartbeats 8000000 in
set_option maxRecDepth 100000 in
theorem rrows_any (W0 : World) (b : Nat) (old come : Nat) (hold : old ≤ 999) (hcome : come ≤ 999) (r : List UInt8 × Bool) (w : World) (h : Rdr W0 w b r) :
    Calls Tryz.prog 84 #[.pointer (some ⟨b, 0, none⟩), .int .i64 (old : Int), .int .i64 (come : Int)] w fun e w' => RowsPost W0 b old come r w e w' := by
  have hbl : b < w.heap.size := h.lt
  have HSM := Lib.hid h.small
  have H := Lib.hid h
  clear h
  go_enter Tryz.func84, Tryz.ntmps84
  go_wp2
  go_loopw [1, 2, 7] (fun ov cv lv w' => ∃ (v : Value) (O : List Rw) (o1 c1 : Int) (r1 : List UInt8 × Bool), ov = .int .i64 o1 ∧ cv = .int .i64 c1 ∧ v = lv ∧ slenU v = O.length ∧ Hid (OwnRw w' w.heap.size v O) ∧ Hid (RowsAt old come r O o1 c1 r1) ∧ Hid (Rdr W0 w' b r1) ∧ Hid (Wrote (fun i => i = b) w w')) (fun _ _ lv _ => 3005 - slenU lv)
  case atStart => exact ⟨_, [], old, come, r, rfl, rfl, rfl, rfl, Lib.hid OwnRw.nil_, Lib.hid (RowsAt.start old come r), H, Lib.hid (Wrote.of_below (Below.refl _ _))⟩
  case round =>
    obtain ⟨v, O, o1, c1, r1, rfl, rfl, rfl, hsl, HO, HA, HR, HW⟩ := hrel
    obtain ⟨q, HQ⟩ : ∃ q, Hid (O.length = q) := ⟨_, rfl⟩
    obtain ⟨A0, cap0, rfl, hqc, _⟩ := HO.out.form HQ.out
    have hq3 : Hid (q ≤ 3001) := Lib.hid (by have := HA.out.many; rw [HQ.out] at this; have := HSM.out; omega)
    have hO := HA.out.olds
    have hC := HA.out.news
    rw [HQ.out] at hO hC
    have hq3' := hq3.out
    have cc1 := HR.out.c1
    have cc0 := HR.out.c0
    have hw1 : IntKind.i64.wrap (o1 - 1) = o1 - 1 := by rw [IntKind.wrap_i64]; omega
    have hw2 : IntKind.i64.wrap (c1 - 1) = c1 - 1 := by rw [IntKind.wrap_i64]; omega
    cases hf : r1.2
    · rw [hf] at cc1
      by_cases ho : 0 < o1
      · have HGO := Lib.hid (show 0 < o1 ∨ 0 < c1 from .inl ho)
        have p1 := eq_true ho
        obtain ⟨x, r5, HX⟩ : ∃ x r5, Hid (rRow r1 = (x, r5)) := ⟨_, _, rfl⟩
        obtain ⟨l1, l2, l3, l4, _, _⟩ := rRow_le r1
        have HN := Lib.hid (HA.out.next hf HGO.out)
        rw [HX.out] at l1 l2 l3 l4 HN
        dsimp only at l1 l2 l3 l4 HN
        have hxl : Hid (x.line.size ≤ maxLen) := Lib.hid (by have := HR.out.small; unfold maxLen; omega)
        have hl4 : Hid (O.length + 1 ≤ 3001) := Lib.hid (by have h1 := HN.out.many; have h2 := HSM.out; rw [List.length_append, List.length_singleton] at h1; omega)
        have hRX := Lib.hid (rrow_any W0 b r1 _ HR.out)
        rw [HX.out] at hRX
        dsimp only at hRX
        have HXO := Lib.hid (show RwOk x from ⟨⟨by omega, by omega⟩, hxl.out⟩)
        have hol : O.length ≤ 1048576 := by have := hl4.out; omega
        clear hf l1 l2 cc0
        go_wp2_with fail
        refine hRX.out.mono ?_
        rintro e w5 ⟨rfl, hr5, hw5⟩
        obtain ⟨W, HWW⟩ : ∃ W, Hid (W = w5.alloc (.cells #[.int .i64 x.kind, .string x.line] 62)) := ⟨_, rfl⟩
        have HB := Lib.hid (show Below w5.heap.size w5 W by rw [HWW.out]; exact below_alloc _ _)
        have HO5 := Lib.hid ((HO.out.wrote' hw5 hbl).below HB.out)
        have HR5 := Lib.hid (hr5.keep HB.out)
        have HW5 := Lib.hid ((HW.out.trans hw5 (fun _ _ e => e)).trans (Wrote.of_below (S := fun i => i = b) HB.out) (fun _ _ e => e))
        have HSW := Lib.hid (show W.heap.size = w5.heap.size + 1 by rw [HWW.out]; simp)
        have BA := Lib.hid (below_alloc W (.cells #[.int .i64 x.kind, .string x.line] 62))
        have HOA := Lib.hid (HO5.out.below BA.out)
        have ha0 := Lib.hid (show (W.alloc (.cells #[.int .i64 x.kind, .string x.line] 62)).cell? ⟨w5.heap.size + 1, 0, none⟩ = some (.int .i64 x.kind) by rw [← HSW.out]; simp)
        have ha1 := Lib.hid (show (W.alloc (.cells #[.int .i64 x.kind, .string x.line] 62)).cell? ⟨w5.heap.size + 1, 1, none⟩ = some (.string x.line) by rw [← HSW.out]; simp)
        have haB := Lib.hid (show w.heap.size ≤ (W.alloc (.cells #[.int .i64 x.kind, .string x.line] 62)).heap.size from Nat.le_trans HW5.out.size BA.out.size)
        clear hr5 hw5 cc1
        have hk := (by omega : x.kind = 0 ∨ x.kind = 1 ∨ x.kind = 2 ∨ x.kind = 3)
        by_cases k2 : x.kind = 2
        · have q2 : (x.kind == 2) = true := by simp [k2]
          have q1 : (x.kind == 1) = false := by simp [k2]
          have q3 : (x.kind == 3) = false := by simp [k2]
          have e1 : oldN x.kind = 1 := by simp [oldN, k2]
          have e2 : newN x.kind = 0 := by simp [newN, k2]
          rw [e1, e2] at HN
          clear hk k2 e1 e2
          go_wp2_with (first
            | (at_builtin
               rw [← HWW.out]
               refine wpList_rw (.tmp 38) (.tmp 40) w.heap.size (.slice A0 q cap0) O HOA.out x HXO.out (w5.heap.size + 1) ha0.out ha1.out hol haB.out rfl rfl rfl rfl ?_
               intro v9 w9 o9 g9 p9
               have HO9 := Lib.hid o9
               have hs9 : Hid (slenU v9 = (O ++ [x]).length) := Lib.hid (by obtain ⟨_, _, e9, _⟩ := o9.form (n := (O ++ [x]).length) rfl; rw [e9]; rfl)
               have HR9 := Lib.hid ((HR5.out.keep BA.out).kept g9 (fun g e => by have := (HOA.out.lt e).1; omega))
               have HW9 := Lib.hid ((HW5.out.trans (Wrote.of_below (S := fun i => i = b) BA.out) (fun _ _ e => e)).trans (Wrote.of_grown (S := fun i => (Value.slice A0 q cap0).ownBlock = some i) g9 (fun _ e => e)) (fun i hi e => by have := (HOA.out.lt e).1; omega)))
            | fail)
          go_roundw
          case rel => exact ⟨v9, O ++ [x], o1 - 1, c1, r5, rfl, rfl, rfl, hs9.out, HO9, Lib.hid (by have := HN.out; simpa using this), HR9, HW9⟩
          case measure => have h9 := hs9.out; have h4 := hl4.out; have hq := HQ.out; rw [List.length_append, List.length_singleton] at h9; show 3005 - slenU v9 < 3005 - q; omega
        · have q2 : (x.kind == 2) = false := by simp [k2]
          by_cases k1 : x.kind = 1
          · have q1 : (x.kind == 1) = true := by simp [k1]
            have q3 : (x.kind == 3) = false := by simp [k1]
            have e1 : oldN x.kind = 1 := by simp [oldN, k1]
            have e2 : newN x.kind = 1 := by simp [newN, k1]
            rw [e1, e2] at HN
            clear hk k1 k2 e1 e2
            go_wp2_with (first
              | (at_builtin
                 rw [← HWW.out]
                 refine wpList_rw (.tmp 38) (.tmp 40) w.heap.size (.slice A0 q cap0) O HOA.out x HXO.out (w5.heap.size + 1) ha0.out ha1.out hol haB.out rfl rfl rfl rfl ?_
                 intro v9 w9 o9 g9 p9
                 have HO9 := Lib.hid o9
                 have hs9 : Hid (slenU v9 = (O ++ [x]).length) := Lib.hid (by obtain ⟨_, _, e9, _⟩ := o9.form (n := (O ++ [x]).length) rfl; rw [e9]; rfl)
                 have HR9 := Lib.hid ((HR5.out.keep BA.out).kept g9 (fun g e => by have := (HOA.out.lt e).1; omega))
                 have HW9 := Lib.hid ((HW5.out.trans (Wrote.of_below (S := fun i => i = b) BA.out) (fun _ _ e => e)).trans (Wrote.of_grown (S := fun i => (Value.slice A0 q cap0).ownBlock = some i) g9 (fun _ e => e)) (fun i hi e => by have := (HOA.out.lt e).1; omega)))
              | fail)
            go_roundw
            case rel => exact ⟨v9, O ++ [x], o1 - 1, c1 - 1, r5, rfl, rfl, rfl, hs9.out, HO9, HN, HR9, HW9⟩
            case measure => have h9 := hs9.out; have h4 := hl4.out; have hq := HQ.out; rw [List.length_append, List.length_singleton] at h9; show 3005 - slenU v9 < 3005 - q; omega
          · have q1 : (x.kind == 1) = false := by simp [k1]
            by_cases k3 : x.kind = 3
            · have q3 : (x.kind == 3) = true := by simp [k3]
              have e1 : oldN x.kind = 0 := by simp [oldN, k3]
              have e2 : newN x.kind = 1 := by simp [newN, k3]
              rw [e1, e2] at HN
              clear hk k1 k2 k3 e1 e2
              go_wp2_with (first
                | (at_builtin
                   rw [← HWW.out]
                   refine wpList_rw (.tmp 38) (.tmp 40) w.heap.size (.slice A0 q cap0) O HOA.out x HXO.out (w5.heap.size + 1) ha0.out ha1.out hol haB.out rfl rfl rfl rfl ?_
                   intro v9 w9 o9 g9 p9
                   have HO9 := Lib.hid o9
                   have hs9 : Hid (slenU v9 = (O ++ [x]).length) := Lib.hid (by obtain ⟨_, _, e9, _⟩ := o9.form (n := (O ++ [x]).length) rfl; rw [e9]; rfl)
                   have HR9 := Lib.hid ((HR5.out.keep BA.out).kept g9 (fun g e => by have := (HOA.out.lt e).1; omega))
                   have HW9 := Lib.hid ((HW5.out.trans (Wrote.of_below (S := fun i => i = b) BA.out) (fun _ _ e => e)).trans (Wrote.of_grown (S := fun i => (Value.slice A0 q cap0).ownBlock = some i) g9 (fun _ e => e)) (fun i hi e => by have := (HOA.out.lt e).1; omega)))
                | fail)
              go_roundw
              case rel => exact ⟨v9, O ++ [x], o1, c1 - 1, r5, rfl, rfl, rfl, hs9.out, HO9, Lib.hid (by have := HN.out; simpa using this), HR9, HW9⟩
              case measure => have h9 := hs9.out; have h4 := hl4.out; have hq := HQ.out; rw [List.length_append, List.length_singleton] at h9; show 3005 - slenU v9 < 3005 - q; omega
            · have q3 : (x.kind == 3) = false := by simp [k3]
              have e1 : oldN x.kind = 0 := by simp [oldN, k1, k2]
              have e2 : newN x.kind = 0 := by simp [newN, k1, k3]
              rw [e1, e2] at HN
              go_wp2_with (first
                | (at_builtin
                   rw [← HWW.out]
                   refine wpList_rw (.tmp 38) (.tmp 40) w.heap.size (.slice A0 q cap0) O HOA.out x HXO.out (w5.heap.size + 1) ha0.out ha1.out hol haB.out rfl rfl rfl rfl ?_
                   intro v9 w9 o9 g9 p9
                   have HO9 := Lib.hid o9
                   have hs9 : Hid (slenU v9 = (O ++ [x]).length) := Lib.hid (by obtain ⟨_, _, e9, _⟩ := o9.form (n := (O ++ [x]).length) rfl; rw [e9]; rfl)
                   have HR9 := Lib.hid ((HR5.out.keep BA.out).kept g9 (fun g e => by have := (HOA.out.lt e).1; omega))
                   have HW9 := Lib.hid ((HW5.out.trans (Wrote.of_below (S := fun i => i = b) BA.out) (fun _ _ e => e)).trans (Wrote.of_grown (S := fun i => (Value.slice A0 q cap0).ownBlock = some i) g9 (fun _ e => e)) (fun i hi e => by have := (HOA.out.lt e).1; omega)))
                | fail)
              go_roundw
              case rel => exact ⟨v9, O ++ [x], o1, c1, r5, rfl, rfl, rfl, hs9.out, HO9, Lib.hid (by have := HN.out; simpa using this), HR9, HW9⟩
              case measure => have h9 := hs9.out; have h4 := hl4.out; have hq := HQ.out; rw [List.length_append, List.length_singleton] at h9; show 3005 - slenU v9 < 3005 - q; omega
      · by_cases hc : 0 < c1
        · have HGO := Lib.hid (show 0 < o1 ∨ 0 < c1 from .inr hc)
          have p1 := eq_false ho
          have p2 := eq_true hc
          obtain ⟨x, r5, HX⟩ : ∃ x r5, Hid (rRow r1 = (x, r5)) := ⟨_, _, rfl⟩
          obtain ⟨l1, l2, l3, l4, _, _⟩ := rRow_le r1
          have HN := Lib.hid (HA.out.next hf HGO.out)
          rw [HX.out] at l1 l2 l3 l4 HN
          dsimp only at l1 l2 l3 l4 HN
          have hxl : Hid (x.line.size ≤ maxLen) := Lib.hid (by have := HR.out.small; unfold maxLen; omega)
          have hl4 : Hid (O.length + 1 ≤ 3001) := Lib.hid (by have h1 := HN.out.many; have h2 := HSM.out; rw [List.length_append, List.length_singleton] at h1; omega)
          have hRX := Lib.hid (rrow_any W0 b r1 _ HR.out)
          rw [HX.out] at hRX
          dsimp only at hRX
          have HXO := Lib.hid (show RwOk x from ⟨⟨by omega, by omega⟩, hxl.out⟩)
          have hol : O.length ≤ 1048576 := by have := hl4.out; omega
          clear hf l1 l2 cc0
          go_wp2_with fail
          refine hRX.out.mono ?_
          rintro e w5 ⟨rfl, hr5, hw5⟩
          obtain ⟨W, HWW⟩ : ∃ W, Hid (W = w5.alloc (.cells #[.int .i64 x.kind, .string x.line] 62)) := ⟨_, rfl⟩
          have HB := Lib.hid (show Below w5.heap.size w5 W by rw [HWW.out]; exact below_alloc _ _)
          have HO5 := Lib.hid ((HO.out.wrote' hw5 hbl).below HB.out)
          have HR5 := Lib.hid (hr5.keep HB.out)
          have HW5 := Lib.hid ((HW.out.trans hw5 (fun _ _ e => e)).trans (Wrote.of_below (S := fun i => i = b) HB.out) (fun _ _ e => e))
          have HSW := Lib.hid (show W.heap.size = w5.heap.size + 1 by rw [HWW.out]; simp)
          have BA := Lib.hid (below_alloc W (.cells #[.int .i64 x.kind, .string x.line] 62))
          have HOA := Lib.hid (HO5.out.below BA.out)
          have ha0 := Lib.hid (show (W.alloc (.cells #[.int .i64 x.kind, .string x.line] 62)).cell? ⟨w5.heap.size + 1, 0, none⟩ = some (.int .i64 x.kind) by rw [← HSW.out]; simp)
          have ha1 := Lib.hid (show (W.alloc (.cells #[.int .i64 x.kind, .string x.line] 62)).cell? ⟨w5.heap.size + 1, 1, none⟩ = some (.string x.line) by rw [← HSW.out]; simp)
          have haB := Lib.hid (show w.heap.size ≤ (W.alloc (.cells #[.int .i64 x.kind, .string x.line] 62)).heap.size from Nat.le_trans HW5.out.size BA.out.size)
          clear hr5 hw5 cc1
          have hk := (by omega : x.kind = 0 ∨ x.kind = 1 ∨ x.kind = 2 ∨ x.kind = 3)
          by_cases k2 : x.kind = 2
          · have q2 : (x.kind == 2) = true := by simp [k2]
            have q1 : (x.kind == 1) = false := by simp [k2]
            have q3 : (x.kind == 3) = false := by simp [k2]
            have e1 : oldN x.kind = 1 := by simp [oldN, k2]
            have e2 : newN x.kind = 0 := by simp [newN, k2]
            rw [e1, e2] at HN
            clear hk k2 e1 e2
            go_wp2_with (first
              | (at_builtin
                 rw [← HWW.out]
                 refine wpList_rw (.tmp 38) (.tmp 40) w.heap.size (.slice A0 q cap0) O HOA.out x HXO.out (w5.heap.size + 1) ha0.out ha1.out hol haB.out rfl rfl rfl rfl ?_
                 intro v9 w9 o9 g9 p9
                 have HO9 := Lib.hid o9
                 have hs9 : Hid (slenU v9 = (O ++ [x]).length) := Lib.hid (by obtain ⟨_, _, e9, _⟩ := o9.form (n := (O ++ [x]).length) rfl; rw [e9]; rfl)
                 have HR9 := Lib.hid ((HR5.out.keep BA.out).kept g9 (fun g e => by have := (HOA.out.lt e).1; omega))
                 have HW9 := Lib.hid ((HW5.out.trans (Wrote.of_below (S := fun i => i = b) BA.out) (fun _ _ e => e)).trans (Wrote.of_grown (S := fun i => (Value.slice A0 q cap0).ownBlock = some i) g9 (fun _ e => e)) (fun i hi e => by have := (HOA.out.lt e).1; omega)))
              | fail)
            go_roundw
            case rel => exact ⟨v9, O ++ [x], o1 - 1, c1, r5, rfl, rfl, rfl, hs9.out, HO9, Lib.hid (by have := HN.out; simpa using this), HR9, HW9⟩
            case measure => have h9 := hs9.out; have h4 := hl4.out; have hq := HQ.out; rw [List.length_append, List.length_singleton] at h9; show 3005 - slenU v9 < 3005 - q; omega
          · have q2 : (x.kind == 2) = false := by simp [k2]
            by_cases k1 : x.kind = 1
            · have q1 : (x.kind == 1) = true := by simp [k1]
              have q3 : (x.kind == 3) = false := by simp [k1]
              have e1 : oldN x.kind = 1 := by simp [oldN, k1]
              have e2 : newN x.kind = 1 := by simp [newN, k1]
              rw [e1, e2] at HN
              clear hk k1 k2 e1 e2
              go_wp2_with (first
                | (at_builtin
                   rw [← HWW.out]
                   refine wpList_rw (.tmp 38) (.tmp 40) w.heap.size (.slice A0 q cap0) O HOA.out x HXO.out (w5.heap.size + 1) ha0.out ha1.out hol haB.out rfl rfl rfl rfl ?_
                   intro v9 w9 o9 g9 p9
                   have HO9 := Lib.hid o9
                   have hs9 : Hid (slenU v9 = (O ++ [x]).length) := Lib.hid (by obtain ⟨_, _, e9, _⟩ := o9.form (n := (O ++ [x]).length) rfl; rw [e9]; rfl)
                   have HR9 := Lib.hid ((HR5.out.keep BA.out).kept g9 (fun g e => by have := (HOA.out.lt e).1; omega))
                   have HW9 := Lib.hid ((HW5.out.trans (Wrote.of_below (S := fun i => i = b) BA.out) (fun _ _ e => e)).trans (Wrote.of_grown (S := fun i => (Value.slice A0 q cap0).ownBlock = some i) g9 (fun _ e => e)) (fun i hi e => by have := (HOA.out.lt e).1; omega)))
                | fail)
              go_roundw
              case rel => exact ⟨v9, O ++ [x], o1 - 1, c1 - 1, r5, rfl, rfl, rfl, hs9.out, HO9, HN, HR9, HW9⟩
              case measure => have h9 := hs9.out; have h4 := hl4.out; have hq := HQ.out; rw [List.length_append, List.length_singleton] at h9; show 3005 - slenU v9 < 3005 - q; omega
            · have q1 : (x.kind == 1) = false := by simp [k1]
              by_cases k3 : x.kind = 3
              · have q3 : (x.kind == 3) = true := by simp [k3]
                have e1 : oldN x.kind = 0 := by simp [oldN, k3]
                have e2 : newN x.kind = 1 := by simp [newN, k3]
                rw [e1, e2] at HN
                clear hk k1 k2 k3 e1 e2
                go_wp2_with (first
                  | (at_builtin
                     rw [← HWW.out]
                     refine wpList_rw (.tmp 38) (.tmp 40) w.heap.size (.slice A0 q cap0) O HOA.out x HXO.out (w5.heap.size + 1) ha0.out ha1.out hol haB.out rfl rfl rfl rfl ?_
                     intro v9 w9 o9 g9 p9
                     have HO9 := Lib.hid o9
                     have hs9 : Hid (slenU v9 = (O ++ [x]).length) := Lib.hid (by obtain ⟨_, _, e9, _⟩ := o9.form (n := (O ++ [x]).length) rfl; rw [e9]; rfl)
                     have HR9 := Lib.hid ((HR5.out.keep BA.out).kept g9 (fun g e => by have := (HOA.out.lt e).1; omega))
                     have HW9 := Lib.hid ((HW5.out.trans (Wrote.of_below (S := fun i => i = b) BA.out) (fun _ _ e => e)).trans (Wrote.of_grown (S := fun i => (Value.slice A0 q cap0).ownBlock = some i) g9 (fun _ e => e)) (fun i hi e => by have := (HOA.out.lt e).1; omega)))
                  | fail)
                go_roundw
                case rel => exact ⟨v9, O ++ [x], o1, c1 - 1, r5, rfl, rfl, rfl, hs9.out, HO9, Lib.hid (by have := HN.out; simpa using this), HR9, HW9⟩
                case measure => have h9 := hs9.out; have h4 := hl4.out; have hq := HQ.out; rw [List.length_append, List.length_singleton] at h9; show 3005 - slenU v9 < 3005 - q; omega
              · have q3 : (x.kind == 3) = false := by simp [k3]
                have e1 : oldN x.kind = 0 := by simp [oldN, k1, k2]
                have e2 : newN x.kind = 0 := by simp [newN, k1, k3]
                rw [e1, e2] at HN
                go_wp2_with (first
                  | (at_builtin
                     rw [← HWW.out]
                     refine wpList_rw (.tmp 38) (.tmp 40) w.heap.size (.slice A0 q cap0) O HOA.out x HXO.out (w5.heap.size + 1) ha0.out ha1.out hol haB.out rfl rfl rfl rfl ?_
                     intro v9 w9 o9 g9 p9
                     have HO9 := Lib.hid o9
                     have hs9 : Hid (slenU v9 = (O ++ [x]).length) := Lib.hid (by obtain ⟨_, _, e9, _⟩ := o9.form (n := (O ++ [x]).length) rfl; rw [e9]; rfl)
                     have HR9 := Lib.hid ((HR5.out.keep BA.out).kept g9 (fun g e => by have := (HOA.out.lt e).1; omega))
                     have HW9 := Lib.hid ((HW5.out.trans (Wrote.of_below (S := fun i => i = b) BA.out) (fun _ _ e => e)).trans (Wrote.of_grown (S := fun i => (Value.slice A0 q cap0).ownBlock = some i) g9 (fun _ e => e)) (fun i hi e => by have := (HOA.out.lt e).1; omega)))
                  | fail)
                go_roundw
                case rel => exact ⟨v9, O ++ [x], o1, c1, r5, rfl, rfl, rfl, hs9.out, HO9, Lib.hid (by have := HN.out; simpa using this), HR9, HW9⟩
                case measure => have h9 := hs9.out; have h4 := hl4.out; have hq := HQ.out; rw [List.length_append, List.length_singleton] at h9; show 3005 - slenU v9 < 3005 - q; omega
        · have HM := Lib.hid (show r1.2 = true ∨ ¬ (0 < o1 ∨ 0 < c1) from .inr (by omega))
          have p1 := eq_false ho
          have p2 := eq_false hc
          by_cases z1 : o1 = 0
          · by_cases z2 : c1 = 0
            · have n1 : (o1 != 0) = false := by simp [z1]
              have n2 : (c1 != 0) = false := by simp [z2]
              have HF := Lib.hid (HA.out.ends HM.out ⟨z1, z2⟩)
              clear z1 z2
              go_wp2
              go_ret
              exact ⟨_, O, r1, rfl, HO.out, HF.out, HR.out, HW.out⟩
            · have n1 : (o1 != 0) = false := by simp [z1]
              have n2 : (c1 != 0) = true := by simp [z2]
              have HF := Lib.hid (HA.out.bad HM.out (fun e => z2 e.2))
              clear z1 z2
              go_wp2_with fail
              refine (rfail_any W0 b r1 _ HR.out).mono ?_
              rintro e w5 ⟨rfl, hr5, hw5⟩
              go_wp2
              go_ret
              exact ⟨_, O, _, rfl, HO.out.wrote' hw5 hbl, HF.out, hr5, HW.out.trans hw5 (fun _ _ e => e)⟩
          · have n1 : (o1 != 0) = true := by simp [z1]
            have HF := Lib.hid (HA.out.bad HM.out (fun e => z1 e.1))
            clear z1
            go_wp2_with fail
            refine (rfail_any W0 b r1 _ HR.out).mono ?_
            rintro e w5 ⟨rfl, hr5, hw5⟩
            go_wp2
            go_ret
            exact ⟨_, O, _, rfl, HO.out.wrote' hw5 hbl, HF.out, hr5, HW.out.trans hw5 (fun _ _ e => e)⟩
    · rw [hf] at cc1
      have HM := Lib.hid (show r1.2 = true ∨ ¬ (0 < o1 ∨ 0 < c1) from .inl hf)
      by_cases ho : 0 < o1
      · have p1 := eq_true ho
        by_cases z1 : o1 = 0
        · by_cases z2 : c1 = 0
          · have n1 : (o1 != 0) = false := by simp [z1]
            have n2 : (c1 != 0) = false := by simp [z2]
            have HF := Lib.hid (HA.out.ends HM.out ⟨z1, z2⟩)
            clear z1 z2
            go_wp2
            go_ret
            exact ⟨_, O, r1, rfl, HO.out, HF.out, HR.out, HW.out⟩
          · have n1 : (o1 != 0) = false := by simp [z1]
            have n2 : (c1 != 0) = true := by simp [z2]
            have HF := Lib.hid (HA.out.bad HM.out (fun e => z2 e.2))
            clear z1 z2
            go_wp2_with fail
            refine (rfail_any W0 b r1 _ HR.out).mono ?_
            rintro e w5 ⟨rfl, hr5, hw5⟩
            go_wp2
            go_ret
            exact ⟨_, O, _, rfl, HO.out.wrote' hw5 hbl, HF.out, hr5, HW.out.trans hw5 (fun _ _ e => e)⟩
        · have n1 : (o1 != 0) = true := by simp [z1]
          have HF := Lib.hid (HA.out.bad HM.out (fun e => z1 e.1))
          clear z1
          go_wp2_with fail
          refine (rfail_any W0 b r1 _ HR.out).mono ?_
          rintro e w5 ⟨rfl, hr5, hw5⟩
          go_wp2
          go_ret
          exact ⟨_, O, _, rfl, HO.out.wrote' hw5 hbl, HF.out, hr5, HW.out.trans hw5 (fun _ _ e => e)⟩
      · by_cases hc : 0 < c1
        · have p1 := eq_false ho
          have p2 := eq_true hc
          by_cases z1 : o1 = 0
          · by_cases z2 : c1 = 0
            · have n1 : (o1 != 0) = false := by simp [z1]
              have n2 : (c1 != 0) = false := by simp [z2]
              have HF := Lib.hid (HA.out.ends HM.out ⟨z1, z2⟩)
              clear z1 z2
              go_wp2
              go_ret
              exact ⟨_, O, r1, rfl, HO.out, HF.out, HR.out, HW.out⟩
            · have n1 : (o1 != 0) = false := by simp [z1]
              have n2 : (c1 != 0) = true := by simp [z2]
              have HF := Lib.hid (HA.out.bad HM.out (fun e => z2 e.2))
              clear z1 z2
              go_wp2_with fail
              refine (rfail_any W0 b r1 _ HR.out).mono ?_
              rintro e w5 ⟨rfl, hr5, hw5⟩
              go_wp2
              go_ret
              exact ⟨_, O, _, rfl, HO.out.wrote' hw5 hbl, HF.out, hr5, HW.out.trans hw5 (fun _ _ e => e)⟩
          · have n1 : (o1 != 0) = true := by simp [z1]
            have HF := Lib.hid (HA.out.bad HM.out (fun e => z1 e.1))
            clear z1
            go_wp2_with fail
            refine (rfail_any W0 b r1 _ HR.out).mono ?_
            rintro e w5 ⟨rfl, hr5, hw5⟩
            go_wp2
            go_ret
            exact ⟨_, O, _, rfl, HO.out.wrote' hw5 hbl, HF.out, hr5, HW.out.trans hw5 (fun _ _ e => e)⟩
        · have p1 := eq_false ho
          have p2 := eq_false hc
          by_cases z1 : o1 = 0
          · by_cases z2 : c1 = 0
            · have n1 : (o1 != 0) = false := by simp [z1]
              have n2 : (c1 != 0) = false := by simp [z2]
              have HF := Lib.hid (HA.out.ends HM.out ⟨z1, z2⟩)
              clear z1 z2
              go_wp2
              go_ret
              exact ⟨_, O, r1, rfl, HO.out, HF.out, HR.out, HW.out⟩
            · have n1 : (o1 != 0) = false := by simp [z1]
              have n2 : (c1 != 0) = true := by simp [z2]
              have HF := Lib.hid (HA.out.bad HM.out (fun e => z2 e.2))
              clear z1 z2
              go_wp2_with fail
              refine (rfail_any W0 b r1 _ HR.out).mono ?_
              rintro e w5 ⟨rfl, hr5, hw5⟩
              go_wp2
              go_ret
              exact ⟨_, O, _, rfl, HO.out.wrote' hw5 hbl, HF.out, hr5, HW.out.trans hw5 (fun _ _ e => e)⟩
          · have n1 : (o1 != 0) = true := by simp [z1]
            have HF := Lib.hid (HA.out.bad HM.out (fun e => z1 e.1))
            clear z1
            go_wp2_with fail
            refine (rfail_any W0 b r1 _ HR.out).mono ?_
            rintro e w5 ⟨rfl, hr5, hw5⟩
            go_wp2
            go_ret
            exact ⟨_, O, _, rfl, HO.out.wrote' hw5 hbl, HF.out, hr5, HW.out.trans hw5 (fun _ _ e => e)⟩

end Go.Proofs.YtkamenidgkjodaaGreatDoor
