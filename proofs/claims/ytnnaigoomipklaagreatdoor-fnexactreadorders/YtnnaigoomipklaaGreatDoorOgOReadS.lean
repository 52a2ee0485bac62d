/-
  ReadOrders, the model's.
-/
import Derived.Test.YtnnaigoomipklaaGreatDoorOgOHeadS
import Derived.Test.YtnnaigoomipklaaGreatDoorOgLinesS
import Derived.Test.YtnnaigoomipklaaGreatDoorOgOMath
set_option linter.unusedSimpArgs false
set_option linter.unusedVariables false
namespace Go.Proofs.YtnnaigoomipklaaGreatDoor.M
open Go

/-- ReadOrders' three answers. -/
def readOr (s : ByteArray) : List Od × Int × Bool := match textOrders s with | some p => (p, 0, true) | none => ([], 1, false)
theorem readOr_none {s : ByteArray} (h : textOrders s = none) : readOr s = ([], 1, false) := by unfold readOr; rw [h]
theorem readOr_some {s : ByteArray} {p : List Od} (h : textOrders s = some p) : readOr s = (p, 0, true) := by unfold readOr; rw [h]
theorem readOr_long {s : ByteArray} (h : 3000 < s.size) : readOr s = ([], 1, false) := by
  apply readOr_none
  cases hq : textOrders s with
  | none => rfl
  | some p => have := (textOrders_some.1 hq).1; omega
/-- Some orders have been read, and these lines are left. -/
def ReadsO (s : ByteArray) (P : List Od) (L : List ByteArray) : Prop :=
  ∃ n, L.length ≤ n ∧ textOrders s = match readO n L with | none => none | some r => if s.size ≤ 3000 ∧ ordersB (P ++ r) = true ∧ ordersT (P ++ r) = s then some (P ++ r) else none
section
variable {s h : ByteArray} {P : List Od} {l : List ByteArray} {k a b : Nat}
theorem ReadsO.start (s : ByteArray) : ReadsO s [] (cutOf s) := ⟨s.size, cutOf_len s, by unfold textOrders; cases readO s.size (cutOf s) <;> rfl⟩
theorem ReadsO.bad (hp : ReadsO s P (h :: l)) (e : hdO (plain h).data.toList = none) : textOrders s = none := by
  obtain ⟨n, hn, ht⟩ := hp
  cases n with
  | zero => simp at hn
  | succ n =>
    rw [ht, readO, e]
theorem ReadsO.open_ (hp : ReadsO s P (h :: l)) (e : hdO (plain h).data.toList = some (k, a, b)) (hk : k ≤ 3) (hs : spanO l = none) : textOrders s = none := by
  obtain ⟨n, hn, ht⟩ := hp
  cases n with
  | zero => simp at hn
  | succ n =>
    rw [ht, readO, e]
    simp only []
    rw [if_pos hk, hs]
theorem ReadsO.lines (hp : ReadsO s P (h :: l)) (e : hdO (plain h).data.toList = some (k, a, b)) (hk : k ≤ 3) {new r : List ByteArray} (hs : spanO l = some (new, r)) : ReadsO s (P ++ [⟨(k : Int), (a : Int), (b : Int), new⟩]) r := by
  obtain ⟨n, hn, ht⟩ := hp
  cases n with
  | zero => simp at hn
  | succ n =>
    have hl := spanO_len hs
    simp only [List.length_cons] at hn
    dsimp only at hl
    refine ⟨n, by omega, ?_⟩
    rw [ht, readO, e]
    simp only []
    rw [if_pos hk, hs]
    simp only []
    cases readO n r with
    | none => rfl
    | some q => simp only [Option.map_some, List.append_assoc, List.singleton_append]
theorem ReadsO.alone (hp : ReadsO s P (h :: l)) (e : hdO (plain h).data.toList = some (k, a, b)) (hk : ¬ k ≤ 3) : ReadsO s (P ++ [⟨(k : Int), (a : Int), (b : Int), []⟩]) l := by
  obtain ⟨n, hn, ht⟩ := hp
  cases n with
  | zero => simp at hn
  | succ n =>
    simp only [List.length_cons] at hn
    refine ⟨n, by omega, ?_⟩
    rw [ht, readO, e]
    simp only []
    rw [if_neg hk]
    cases readO n l with
    | none => rfl
    | some q => simp only [Option.map_some, List.append_assoc, List.singleton_append]
theorem ReadsO.last (hp : ReadsO s P []) : textOrders s = if s.size ≤ 3000 ∧ ordersB P = true ∧ ordersT P = s then some P else none := by
  obtain ⟨n, hn, ht⟩ := hp
  have : readO n [] = some [] := by cases n <;> rfl
  rw [ht, this]
  simp only [List.append_nil]
theorem ReadsO.no (hp : ReadsO s P []) (h : ordersB P = false ∨ ordersT P ≠ s) : readOr s = ([], 1, false) := by
  apply readOr_none
  rw [hp.last]
  apply if_neg
  rintro ⟨_, h2, h3⟩
  rcases h with h | h
  · rw [h] at h2; cases h2
  · exact h h3
theorem ReadsO.yes (hp : ReadsO s P []) (h0 : s.size ≤ 3000) (h : ordersB P = true) (h2 : ordersT P = s) : readOr s = (P, 0, true) := by
  apply readOr_some
  rw [hp.last]
  exact if_pos ⟨h0, h, h2⟩
end
theorem span_none : ∀ {l : List ByteArray}, (∀ y ∈ l, y ≠ dotA) → spanO l = none
  | [], _ => rfl
  | s :: l, h => by rw [spanO, if_neg (h s (by simp)), span_none (fun y hy => h y (by simp [hy]))]; rfl
theorem hdO_le {l : List UInt8} {k a b : Nat} (h : hdO l = some (k, a, b)) : k ≤ 5 ∧ 1 ≤ k ∧ a ≤ 1000 ∧ b ≤ 1000 := by
  unfold hdO at h
  split at h
  · cases h
  · rename_i x y hp
    split at h
    · cases h
    · rename_i hk
      injection h with h
      injection h with h1 h2
      injection h2 with h2 h3
      subst h1 h2 h3
      have hle := kind_le (l.dropWhile numc)
      have hpl : x ≤ 1000 ∧ y ≤ 1000 := by
        unfold pairL at hp
        have h1 := Option.filter_eq_some_iff.1 hp
        have h3 := h1.2
        simp only [Bool.and_eq_true, decide_eq_true_eq] at h3
        omega
      omega
theorem sizeO_le_total {x : ByteArray} : ∀ {l : List ByteArray}, x ∈ l → x.size ≤ total l
  | [], h => by simp at h
  | y :: l, h => by
    rw [total]
    rcases List.mem_cons.1 h with e | e
    · rw [e]; omega
    · have := sizeO_le_total e; omega
theorem cutO_sizes (s : ByteArray) : ∀ x ∈ cutOf s, 1 ≤ x.size ∧ x.size ≤ s.size := by
  intro x hx
  obtain ⟨k, hk, e⟩ := List.getElem_of_mem hx
  have h1 := (cutGo_prop s.data.toList [] (by simp) k x (by rw [show cutGo [] s.data.toList = cutOf s from rfl, List.getElem?_eq_getElem hk, e])).1
  have h2 := sizeO_le_total hx
  rw [← cat_size, cut_cat] at h2
  unfold propB at h1
  simp only [Bool.and_eq_true, decide_eq_true_eq] at h1
  exact ⟨h1.1, h2⟩
theorem plainO_le (s : ByteArray) : (plain s).size ≤ s.size := by
  unfold plain
  split
  · rw [ByteArray.size_extract]; omega
  · exact Nat.le_refl _

end Go.Proofs.YtnnaigoomipklaaGreatDoor.M

namespace Go.Proofs.YtnnaigoomipklaaGreatDoor
open Go.RowKit Go.ChangeShapes Go.WideShapes M

theorem blk_ownO {v : Value} {rows : List (List D)} {g : Nat} (e : v.ownBlock = some g) : BlkR v rows g := by unfold BlkR; simp [e]
theorem step_strsO {w : World} {ops : Array Oper} {o : Oper} {a : Act} {K : Act → World → Prop} {Q : Exit → Act → World → Prop} {E : Prop} (s x : Operand) (base : Nat) (v : Value) (l : List ByteArray) (hown : OwnV w base v l) (A : Option Addr) (m c : Nat) (r : List ByteArray) (hr : Strs w A m r)
    (hbound : l.length + m ≤ 4294967296) (hbase : base ≤ w.heap.size) (hgd : Region.wanted o (yielded ops a.tmps) = true) (ho : o.op = .call { callee := .builtin .append, args := #[s, x], argTypes := #[33, 33] }) (hs : a.eval s = v) (hx : a.eval x = .slice A m c)
    (h : ∀ v' w', OwnV w' base v' (l ++ r) → w.grownBy w' v.ownBlock → (v'.ownBlock = v.ownBlock ∨ v'.ownBlock = some w.heap.size) → K (a.put o.dst v') w') : if Region.wanted o (yielded ops a.tmps) = true then Oper.wp Tryz.prog o a w K Q else E := by
  obtain ⟨i, h1, h2, h3, h4⟩ := info_parts str_info
  exact step_app Tryz.underlying33 h1 h2 h3 h4 s x base v l hown A m c r hr hbound hbase hgd ho hs hx h
def slenO : Value → Nat
  | .slice _ n _ => n
  | _ => 0
theorem cut_loO (a : Option Addr) (n c lo : Nat) (h1 : lo ≤ n) (h2 : n ≤ c) (w : World) :
    (Instr.slice 33 (.slice a n c) (some (.int .i64 (lo : Int))) none none).run Tryz.prog w = .ok (.slice (cutA a c lo) (n - lo) (c - lo)) w := by
  obtain ⟨i, h3, h4, h5, h6⟩ := info_parts str_info
  exact run_cut_lo Tryz.underlying33 h3 h5 a n c lo h1 h2 w
theorem cut_oneO (a : Option Addr) (n c : Nat) (h1 : 1 ≤ n) (h2 : n ≤ c) (w : World) :
    (Instr.slice 33 (.slice a n c) (some (.int .i64 1)) none none).run Tryz.prog w = .ok (.slice (cutA a c 1) (n - 1) (c - 1)) w := by
  have := cut_loO a n c 1 h1 h2 w
  simpa using this

set_option maxHeartbeats 8000000 in
set_option maxRecDepth 100000 in
theorem specReadOrders_any (s : ByteArray) (hs : s.size ≤ 1048576) (w : World) :
    Calls Tryz.prog 18 #[.string s] w fun e w' => ∃ v rows, e = .returned (.tuple #[v, .int .i64 (readOr s).2.1, .bool (readOr s).2.2]) ∧ OwnOd w' w.heap.size v (readOr s).1 rows ∧ Below w.heap.size w w' := by
  by_cases h3 : 3000 < s.size
  · have HB := Lib.hid (readOr_long h3)
    go_enter Tryz.func18, Tryz.ntmps18
    go_wp2
    go_ret3
    exact ⟨_, [], by rw [HB.out]; rfl, by rw [HB.out]; exact OwnOd.nil_, Below.refl _ _⟩
  · have HCNT := Lib.hid (cutOf_len s)
    have HCS := Lib.hid (cutO_sizes s)
    go_enter Tryz.func18, Tryz.ntmps18
    go_wp2_with fail
    refine (l1Cut_any s _ hs).mono ?_
    rintro e w1 ⟨v0, rfl, o0, b0⟩
    obtain ⟨n0, HN0⟩ : ∃ n0, Hid ((cutOf s).length = n0) := ⟨_, rfl⟩
    obtain ⟨A0, c0, rfl, h01, h02⟩ := o0.form HN0.out
    have HB0 := Lib.hid b0
    have HST0 := Lib.hid o0.strs
    clear o0 b0
    go_wp2
    go_loopw [5, 6] (fun lv ov w' => ∃ (A : Option Addr) (n c : Nat) (L : List ByteArray) (u : Value) (out : List Od) (rows : List (List D)), lv = .slice A n c ∧ u = ov ∧ n ≤ c ∧ Strs w1 A n L ∧ OwnOd w' w1.heap.size u out rows ∧ Hid (ReadsO s out L) ∧ Hid (∀ x ∈ L, 1 ≤ x.size ∧ x.size ≤ 3000) ∧ Hid (out.length + n ≤ 3000) ∧ Below w1.heap.size w1 w') (fun lv _ _ => slenO lv)
    case atStart => exact ⟨A0, n0, c0, cutOf s, _, [], [], rfl, rfl, h01, HST0.out, OwnOd.nil_, Lib.hid (ReadsO.start _), Lib.hid (fun x hx => by have := HCS.out x hx; omega), Lib.hid (by have := HCNT.out; have := HN0.out; simp only [List.length_nil]; omega), Below.refl _ _⟩
    case round =>
      obtain ⟨A, n, c, L, u, out, rows, rfl, rfl, hnc, hst, ho, HPA, HLS, HOL, hb⟩ := hrel
      have HSTL := Lib.hid hst.len
      by_cases hn0 : n = 0
      · have hL0 : L = [] := List.eq_nil_of_length_eq_zero (by rw [HSTL.out]; exact hn0)
        subst hL0
        have HPE := Lib.hid (show ReadsO s out [] from HPA.out)
        have hq0 : decide (0 < n) = false := by simp; omega
        obtain ⟨N, HN⟩ : ∃ N, Hid (out.length = N) := ⟨_, rfl⟩
        obtain ⟨A9, c9, rfl, h91, h92⟩ := ho.form HN.out
        have HSP := Lib.hid ho.ods
        have HOW := Lib.hid ho
        have HBW := Lib.hid hb
        obtain ⟨w2, hw2⟩ : ∃ w2, w2 = wr := ⟨_, rfl⟩
        subst hw2
        clear ho hb hst hn0 HPA HLS HSTL
        cases hg : ordersB out
        · have HBAD := Lib.hid (HPE.out.no (.inl hg))
          have HG := Lib.hid hg
          clear hg
          go_wp2_with fail
          refine (l9Good_any A9 N c9 out _ HSP.out).mono ?_
          rintro e w4 ⟨rfl, b4⟩
          rw [HG.out]
          go_wp2
          go_ret3
          exact ⟨_, [], by rw [HBAD.out]; rfl, by rw [HBAD.out]; exact OwnOd.nil_, (HB0.out.next HBW.out).next b4⟩
        · have HG := Lib.hid hg
          obtain ⟨T, HT⟩ : ∃ T, Hid (ordersT out = T) := ⟨_, rfl⟩
          by_cases hts : T = s
          · have hq : (T.toList == s.toList) = true := by rw [hts]; exact beq_same s
            have HGD := Lib.hid (HPE.out.yes (by omega) hg (by rw [HT.out]; exact hts))
            clear hg hts
            go_wp2_with fail
            refine (l9Good_any A9 N c9 out _ HSP.out).mono ?_
            rintro e w4 ⟨rfl, b4⟩
            rw [HG.out]
            go_wp2_with fail
            refine (l9Text_any A9 N c9 out _ (HSP.out.below b4) HG.out).mono ?_
            rintro e w5 ⟨rfl, b5⟩
            rw [HT.out]
            go_wp2
            go_ret3
            exact ⟨_, rows, by rw [HGD.out]; rfl, by rw [HGD.out]; exact ((HOW.out.below b4).below b5).more HB0.out.size, ((HB0.out.next HBW.out).next b4).next b5⟩
          · have hq : (T.toList == s.toList) = false := beq_other hts
            have HBAD := Lib.hid (HPE.out.no (.inr (fun e => hts (by rw [← HT.out, e]))))
            clear hg hts
            go_wp2_with fail
            refine (l9Good_any A9 N c9 out _ HSP.out).mono ?_
            rintro e w4 ⟨rfl, b4⟩
            rw [HG.out]
            go_wp2_with fail
            refine (l9Text_any A9 N c9 out _ (HSP.out.below b4) HG.out).mono ?_
            rintro e w5 ⟨rfl, b5⟩
            rw [HT.out]
            go_wp2
            go_ret3
            exact ⟨_, [], by rw [HBAD.out]; rfl, by rw [HBAD.out]; exact OwnOd.nil_, ((HB0.out.next HBW.out).next b4).next b5⟩
      · obtain ⟨x, L', rfl⟩ : ∃ x L', L = x :: L' := by
          cases L with
          | nil => exact absurd HSTL.out.symm hn0
          | cons x L' => exact ⟨x, L', rfl⟩
        obtain ⟨b, off, x', rfl, hx', hxm, d0⟩ := (hst.below hb).at_ (k := 0) (by omega)
        obtain rfl : x' = x := by simpa using hx'.symm
        have d00 : wr.cell? ⟨b, off, none⟩ = some (.string x') := by simpa using d0
        have hxs := HLS.out x' (by simp)
        have hxs1 := hxs.1
        have hxs2 := hxs.2
        obtain ⟨n1, Hn1⟩ : ∃ n1, Hid (n - 1 = n1) := ⟨_, rfl⟩
        obtain ⟨c1, Hc1⟩ : ∃ c1, Hid (c - 1 = c1) := ⟨_, rfl⟩
        obtain ⟨A1, HA1⟩ : ∃ A1, Hid (cutA (some ⟨b, off, none⟩) c 1 = A1) := ⟨_, rfl⟩
        have hcut1 : ∀ w, (Instr.slice 33 (.slice (some ⟨b, off, none⟩) n c) (some (.int .i64 1)) none none).run Tryz.prog w = .ok (.slice A1 n1 c1) w := fun w => by
          have := cut_oneO (some ⟨b, off, none⟩) n c (by omega) hnc w
          rw [HA1.out, Hn1.out, Hc1.out] at this
          exact this
        have HST1 := Lib.hid (show Strs w1 A1 n1 L' by
          have := hst.drop_ (lo := 1) (by omega) hnc
          rw [HA1.out, Hn1.out] at this
          exact this)
        have hn1 : n1 + 1 = n := by have := Hn1.out; omega
        have hn1c : n1 ≤ c1 := by have := Hc1.out; omega
        have hn3 : n ≤ 3000 := by have := HOL.out; omega
        have HLS2 := Lib.hid (show ∀ y ∈ L', 1 ≤ y.size ∧ y.size ≤ 3000 from fun y hy => HLS.out y (by simp [hy]))
        have HPM := Lib.hid (show ReadsO s out (x' :: L') from HPA.out)
        have HO := Lib.hid ho
        have HBW := Lib.hid hb
        have HOUL := Lib.hid (show out.length ≤ 1048576 by have := HOL.out; omega)
        have hpl : (plain x').size ≤ 3000 := by have := plainO_le x'; omega
        clear hx' d0 hxm hst ho hb hxs HPA HLS HSTL hn0
        go_wp2_with fail
        refine (l1Plain_any x' _ (by unfold maxLen; omega) (by omega)).mono ?_
        rintro e w2 ⟨rfl, rfl⟩
        go_wp2_with fail
        refine (l9Head_any (plain x') hpl _).mono ?_
        rintro e w3 ⟨kk, f, t, ok, rfl, HOK, HVAL, b3⟩
        unfold headV
        obtain ⟨W5, HW5⟩ : ∃ W5, Hid (W5 = w3.alloc (.cells #[.int .i64 kk, .int .i64 f, .int .i64 t, .slice none 0 0] 78)) := ⟨_, rfl⟩
        have B5 := Lib.hid (show Below wr.heap.size wr W5 by rw [HW5.out]; exact b3.next (below_alloc _ _))
        cases ok
        · have HBAD := Lib.hid (readOr_none (HPM.out.bad (by
            have := HOK.out
            cases hq : hdO (plain x').data.toList with
            | none => rfl
            | some y => rw [hq] at this; cases this)))
          go_wp2
          rw [← HW5.out]
          go_ret3
          exact ⟨_, [], by rw [HBAD.out]; rfl, by rw [HBAD.out]; exact OwnOd.nil_, (HB0.out.next HBW.out).next B5.out⟩
        · obtain ⟨y, hy⟩ : ∃ y, hdO (plain x').data.toList = some y := by
            have := HOK.out
            cases hq : hdO (plain x').data.toList with
            | none => rw [hq] at this; cases this
            | some y => exact ⟨y, rfl⟩
          obtain ⟨K0, a0, b0⟩ := y
          obtain ⟨e1, e2, e3⟩ := HVAL.out _ hy
          dsimp only at e1 e2 e3
          subst e1 e2 e3
          obtain ⟨hK5, hK1, ha0, hb0⟩ := hdO_le hy
          have HY := Lib.hid hy
          clear hy HVAL HOK
          have HB3 := Lib.hid b3
          obtain ⟨wo, hwo⟩ : ∃ wo, wo = wr := ⟨_, rfl⟩
          subst hwo
          have HG5 := Lib.hid (show W5.heap[w3.heap.size]? = some (.cells #[.int .i64 (K0 : Int), .int .i64 (a0 : Int), .int .i64 (b0 : Int), .slice none 0 0] 78 (0, 0)) by
            rw [HW5.out]; exact heap_alloc_new w3 _)
          have HSZ := Lib.hid (show w1.heap.size ≤ wo.heap.size ∧ wo.heap.size ≤ w3.heap.size ∧ W5.heap.size = w3.heap.size + 1 from ⟨HBW.out.size, HB3.out.size, by rw [HW5.out]; simp⟩)
          have B35 := Lib.hid (show Below w3.heap.size w3 W5 by rw [HW5.out]; exact below_alloc _ _)
          have OUT5 := Lib.hid (HO.out.below B5.out)
          have HXL := Lib.hid (show ∀ g, BlkR u rows g → g < w3.heap.size from fun g e => by have h1 := (HO.out.lt e).2; have h2 := HSZ.out; omega)
          have HUN := Lib.hid (show ∀ g, u.ownBlock = some g → g < w3.heap.size from fun g e => HXL.out g (blk_ownO e))
          clear b3
          by_cases hk3 : K0 ≤ 3
          · have hq : decide ((K0 : Int) ≤ 3) = true := by simp; omega
            have hq2 : decide (K0 ≤ 3) = true := by simp; omega
            have HK3 := Lib.hid hk3
            clear hk3
            go_wp2
            rw [← HW5.out]
            go_loopw [5] (fun lv w' => ∃ (A : Option Addr) (n c : Nat) (L2 tk : List ByteArray) (uu : Value), lv = .slice A n c ∧ n ≤ c ∧ Strs w1 A n L2 ∧ Hid (L' = tk ++ L2) ∧ Hid (∀ y ∈ tk, y ≠ dotA) ∧ Hid (tk.length + n = n1) ∧ Hid (w'.heap[w3.heap.size]? = some (.cells #[.int .i64 (K0 : Int), .int .i64 (a0 : Int), .int .i64 (b0 : Int), uu] 78 (0, 0))) ∧ OwnV w' (w3.heap.size + 1) uu tk ∧ Hid (Below w3.heap.size w3 w')) (fun lv _ => slenO lv)
            case atStart => exact ⟨A1, n1, c1, L', [], .slice none 0 0, rfl, hn1c, HST1.out, rfl, Lib.hid (fun y hy => by simp at hy), Lib.hid (by simp), HG5, OwnV.nil_, B35⟩
            case round =>
              obtain ⟨A2, n2, c2, L2, tk, uu, rfl, hn2c, hst2, HLT, HTK, HTN, HGC, HOU, HBC⟩ := hrel
              have hgc := HGC.out
              have z0 : wr.cell? ⟨w3.heap.size, 0, none⟩ = some (.int .i64 (K0 : Int)) := by simp [World.cell?, hgc]
              have z1 : wr.cell? ⟨w3.heap.size, 1, none⟩ = some (.int .i64 (a0 : Int)) := by simp [World.cell?, hgc]
              have z2 : wr.cell? ⟨w3.heap.size, 2, none⟩ = some (.int .i64 (b0 : Int)) := by simp [World.cell?, hgc]
              have z3 : wr.cell? ⟨w3.heap.size, 3, none⟩ = some uu := by simp [World.cell?, hgc]
              have fz : ∀ j, wr.frozen? ⟨w3.heap.size, j, none⟩ = false := fun j => by simp [World.frozen?, hgc]
              have HLG := Lib.hid (show w3.heap.size < wr.heap.size from (Array.getElem?_eq_some_iff.1 hgc).1)
              have HS2L := Lib.hid hst2.len
              have HB1R := Lib.hid (show Below w1.heap.size w1 wr from (HBW.out.next HB3.out).trans (HBC.out.mono (by have := HSZ.out; omega)))
              obtain ⟨m, HM⟩ : ∃ m, Hid (tk.length = m) := ⟨_, rfl⟩
              obtain ⟨ua, uc, rfl, hu1, hu2⟩ := HOU.form HM.out
              have HOUH := Lib.hid HOU
              clear hgc
              have hm3 : m + n2 = n1 := by rw [← HM.out]; exact HTN.out
              by_cases hn20 : n2 = 0
              · have hL20 : L2 = [] := List.eq_nil_of_length_eq_zero (by rw [HS2L.out]; exact hn20)
                have HBAD := Lib.hid (readOr_none (HPM.out.open_ HY.out HK3.out (by rw [HLT.out, hL20, List.append_nil]; exact span_none HTK.out)))
                subst hn20
                go_wp2
                go_ret3
                exact ⟨_, [], by rw [HBAD.out]; rfl, by rw [HBAD.out]; exact OwnOd.nil_, HB0.out.next HB1R.out⟩
              · obtain ⟨y, L3, rfl⟩ : ∃ y L3, L2 = y :: L3 := by
                  cases L2 with
                  | nil => exact absurd HS2L.out.symm hn20
                  | cons y L3 => exact ⟨y, L3, rfl⟩
                obtain ⟨b2, off2, y', rfl, hy', hym, d2⟩ := (hst2.below HB1R.out).at_ (k := 0) (by omega)
                obtain rfl : y' = y := by simpa using hy'.symm
                have d20 : wr.cell? ⟨b2, off2, none⟩ = some (.string y') := by simpa using d2
                obtain ⟨n4, Hn4⟩ : ∃ n4, Hid (n2 - 1 = n4) := ⟨_, rfl⟩
                obtain ⟨c4, Hc4⟩ : ∃ c4, Hid (c2 - 1 = c4) := ⟨_, rfl⟩
                obtain ⟨A4, HA4⟩ : ∃ A4, Hid (cutA (some ⟨b2, off2, none⟩) c2 1 = A4) := ⟨_, rfl⟩
                have hcut4 : ∀ w, (Instr.slice 33 (.slice (some ⟨b2, off2, none⟩) n2 c2) (some (.int .i64 1)) none none).run Tryz.prog w = .ok (.slice A4 n4 c4) w := fun w => by
                  have := cut_oneO (some ⟨b2, off2, none⟩) n2 c2 (by omega) hn2c w
                  rw [HA4.out, Hn4.out, Hc4.out] at this
                  exact this
                have HST4 := Lib.hid (show Strs w1 A4 n4 L3 by
                  have := hst2.drop_ (lo := 1) (by omega) hn2c
                  rw [HA4.out, Hn4.out] at this
                  exact this)
                have hn4 : n4 + 1 = n2 := by have := Hn4.out; omega
                have hn4c : n4 ≤ c4 := by have := Hc4.out; omega
                have hp20 : decide ((0 : Int) < (n2 : Int)) = true := by simp; omega
                have hp21 : decide (0 < n2) = true := by simp; omega
                have hp22 : ((n2 : Int) == 0) = false := by simp; omega
                have hp23 : 0 < n2 := by omega
                have hp24 : (0 : Int) < (n2 : Int) := by omega
                clear hy' d2 hym hst2 hn20
                cases hyd : decide (y' = dotA)
                · have hbe : (y'.toList == [46, 10]) = false := by rw [dot_bytes, hyd]
                  have HYN := Lib.hid (show y' ≠ dotA by simpa using hyd)
                  have HTK4 := Lib.hid (show ∀ z ∈ tk ++ [y'], z ≠ dotA from fun z hz => by
                    rcases List.mem_append.1 hz with h | h
                    · exact HTK.out z h
                    · simp at h; rw [h]; exact HYN.out)
                  have HYS := Lib.hid (show y'.size ≤ maxLen by have := (HLS2.out y' (by rw [HLT.out]; simp)).2; unfold maxLen; omega)
                  have HLT4 := Lib.hid (show L' = (tk ++ [y']) ++ L3 by rw [HLT.out]; simp)
                  have BA := Lib.hid ((below_alloc wr (.cells #[.string y'] 9)).next (Below.refl _ _).drew)
                  have UA := Lib.hid (HOUH.out.below BA.out)
                  have LA := Lib.hid (show Strs (wr.alloc (.cells #[.string y'] 9)).drew (some ⟨wr.heap.size, 0, none⟩) 1 [y'] from (strs_one wr y' HYS.out).below (Below.refl _ _).drew)
                  have hbnd : tk.length + 1 ≤ 4294967296 := by rw [HM.out]; omega
                  have hbs := Lib.hid (show w3.heap.size + 1 ≤ (wr.alloc (.cells #[.string y'] 9)).drew.heap.size by have h1 := HLG.out; have h2 := BA.out.size; omega)
                  have HGA := Lib.hid ((BA.out.block _ HLG.out).trans HGC.out)
                  have HBA := Lib.hid (HBC.out.trans (BA.out.mono (Nat.le_of_lt HLG.out)))
                  have z3a : ∀ o, (wr.alloc o).cell? ⟨w3.heap.size, 3, none⟩ = some (.slice ua m uc) := fun o => cell_keep (below_alloc wr o) z3
                  clear hyd
                  go_wp2
                  go_region_law (first
                    | (refine step_strsO (.tmp 42) (.tmp 46) (w3.heap.size + 1) (.slice ua m uc) tk UA.out (some ⟨wr.heap.size, 0, none⟩) 1 1 [y'] LA.out hbnd hbs.out rfl rfl rfl rfl ?_
                       intro v8 w8 o8 g8 p8
                       obtain ⟨q8, Hq8⟩ : ∃ q, Hid ((tk ++ [y']).length = q) := ⟨_, rfl⟩
                       obtain ⟨A8, k8, rfl, h81, _⟩ := o8.form Hq8.out
                       have G8 := Lib.hid (show w8.heap[w3.heap.size]? = some (.cells #[.int .i64 (K0 : Int), .int .i64 (a0 : Int), .int .i64 (b0 : Int), .slice ua m uc] 78 (0, 0)) from (g8.block _ (by have h1 := HLG.out; have h2 := BA.out.size; omega) (fun e => by have h1 := (UA.out.lt e.symm).1; omega)).trans HGA.out)
                       have f83 : w8.cell? ⟨w3.heap.size, 3, none⟩ = some (.slice ua m uc) := by have := G8.out; simp [World.cell?, this]
                       have fz8 : ∀ j, w8.frozen? ⟨w3.heap.size, j, none⟩ = false := fun j => by have := G8.out; simp [World.frozen?, this]
                       have HB8 := Lib.hid (Below.grown HBA.out g8 (by have h1 := HLG.out; have h2 := BA.out.size; omega) (fun b e => by have h1 := (UA.out.lt e).1; omega))
                       have O8 := Lib.hid o8
                       clear o8 g8 p8)
                    | fail)
                  all_goals go_wp2
                  all_goals go_roundw
                  all_goals first | (case measure => simp [slenO]; omega) | skip
                  all_goals exact ⟨A4, n4, c4, L3, tk ++ [y'], _, rfl, hn4c, HST4.out, HLT4, HTK4, Lib.hid (by rw [List.length_append, List.length_singleton, HM.out]; omega), Lib.hid (by rw [heap_set_sameO G8.out]; rfl), O8.out.wrote (Wrote.set (fun i => i = w3.heap.size) w8 _ _ rfl) (fun g e e2 => by have := (O8.out.lt e).1; omega), Lib.hid (HB8.out.setCell (Nat.le_refl _) _)⟩
                · have hbe : (y'.toList == [46, 10]) = true := by rw [dot_bytes, hyd]
                  have HSP := Lib.hid (show spanO L' = some (tk, L3) by rw [HLT.out, show y' = dotA by simpa using hyd]; exact span_back HTK.out)
                  have HRN := Lib.hid (HPM.out.lines HY.out HK3.out HSP.out)
                  have BA := Lib.hid (below_alloc wr (.cells #[.int .i64 (K0 : Int), .int .i64 (a0 : Int), .int .i64 (b0 : Int), .slice ua m uc] 78))
                  have OUTR := Lib.hid (show OwnOd wr w1.heap.size u out rows from (HO.out.below HB3.out).below HBC.out)
                  have HOKX := Lib.hid (show OdOk ⟨(K0 : Int), (a0 : Int), (b0 : Int), tk⟩ from ⟨⟨by dsimp only; omega, by dsimp only; omega⟩, ⟨by dsimp only; omega, by dsimp only; omega⟩, ⟨by dsimp only; omega, by dsimp only; omega⟩, HOUH.out.small⟩)
                  have HSZ2 := Lib.hid (show w1.heap.size ≤ (wr.alloc (.cells #[.int .i64 (K0 : Int), .int .i64 (a0 : Int), .int .i64 (b0 : Int), .slice ua m uc] 78)).heap.size from (HB1R.out.next BA.out).size)
                  have HUB := Lib.hid (show ∀ g, (Value.slice ua m uc).ownBlock = some g → ¬ BlkR u rows g from fun g e e2 => by have h1 := (HOUH.out.lt e).1; have h2 := HXL.out g e2; omega)
                  have HUM := Lib.hid (HOUH.out.more (show w1.heap.size ≤ w3.heap.size + 1 by have := HSZ.out; omega))
                  have HLX := Lib.hid (show ∀ z ∈ L3, 1 ≤ z.size ∧ z.size ≤ 3000 from fun z hz => HLS2.out z (by rw [HLT.out]; simp [hz]))
                  clear hyd
                  go_wp2_with (first
                    | (at_builtin
                       refine wpList_od (.tmp 56) (.tmp 58) w1.heap.size u out rows (OUTR.out.below BA.out) ⟨(K0 : Int), (a0 : Int), (b0 : Int), tk⟩ HOKX.out (.slice ua m uc) (HUM.out.below BA.out) HUB.out wr.heap.size (by simp) (by simp) (by simp) (by simp) HOUL.out HSZ2.out rfl rfl rfl rfl ?_
                       intro v9 w9 o9 g9 p9
                       have B9 := Lib.hid (Below.grown (HB1R.out.next BA.out) g9 HSZ2.out (fun b e => (OUTR.out.lt (blk_ownO e)).1)))
                    | fail)
                  go_roundw
                  case rel => exact ⟨A4, n4, c4, L3, v9, out ++ [⟨(K0 : Int), (a0 : Int), (b0 : Int), tk⟩], _, rfl, rfl, hn4c, HST4.out, o9, HRN, HLX, Lib.hid (by rw [List.length_append, List.length_singleton]; have := HOL.out; omega), B9.out⟩
                  case measure => simp [slenO]; omega
          · have hq : decide ((K0 : Int) ≤ 3) = false := by simp; omega
            have hq2 : decide (K0 ≤ 3) = false := by simp; omega
            have HRN := Lib.hid (HPM.out.alone HY.out hk3)
            have BA := Lib.hid (below_alloc W5 (.cells #[.int .i64 (K0 : Int), .int .i64 (a0 : Int), .int .i64 (b0 : Int), .slice none 0 0] 78))
            have HOKX := Lib.hid (show OdOk ⟨(K0 : Int), (a0 : Int), (b0 : Int), []⟩ from ⟨⟨by dsimp only; omega, by dsimp only; omega⟩, ⟨by dsimp only; omega, by dsimp only; omega⟩, ⟨by dsimp only; omega, by dsimp only; omega⟩, fun s h => by simp at h⟩)
            have HSZ2 := Lib.hid (show w1.heap.size ≤ (W5.alloc (.cells #[.int .i64 (K0 : Int), .int .i64 (a0 : Int), .int .i64 (b0 : Int), .slice none 0 0] 78)).heap.size by simp; have := HSZ.out; omega)
            clear hk3
            go_wp2_with (first
              | (at_builtin
                 rw [← HW5.out]
                 refine wpList_od (.tmp 56) (.tmp 58) w1.heap.size u out rows (OUT5.out.below BA.out) ⟨(K0 : Int), (a0 : Int), (b0 : Int), []⟩ HOKX.out (.slice none 0 0) OwnV.nil_ (fun g e => by simp [Value.ownBlock] at e) (w3.heap.size + 1) (by rw [← HSZ.out.2.2]; simp) (by rw [← HSZ.out.2.2]; simp) (by rw [← HSZ.out.2.2]; simp) (by rw [← HSZ.out.2.2]; simp) HOUL.out HSZ2.out rfl rfl rfl rfl ?_
                 intro v9 w9 o9 g9 p9
                 have B9 := Lib.hid (Below.grown ((HBW.out.next B5.out).next BA.out) g9 HSZ2.out (fun b e => (OUT5.out.lt (blk_ownO e)).1)))
              | fail)
            go_roundw
            case rel => exact ⟨A1, n1, c1, L', v9, out ++ [⟨(K0 : Int), (a0 : Int), (b0 : Int), []⟩], _, rfl, rfl, hn1c, HST1.out, o9, HRN, HLS2, Lib.hid (by rw [List.length_append, List.length_singleton]; have := HOL.out; omega), B9.out⟩
            case measure => simp [slenO]; omega

end Go.Proofs.YtnnaigoomipklaaGreatDoor
