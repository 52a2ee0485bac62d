/-
  LinesOf, the program's: a range over a function that cuts a text.
-/
import Derived.Test.YtlkodgkagjldaaaLinesS
import Derived.RangeFuncBox
import Derived.RangeFuncBound
import Derived.RangeFuncCalls
import Derived.RangeFuncLeaves
import Derived.Shelf.Abstract
import Derived.Shelf.RegionOpen
import Derived.WalkKit
import Derived.OwnWalkIn
import Derived.TacticsInMore
import Derived.LoopNIn
import Derived.LoopIn
import Derived.Maps.AppendAt
set_option linter.unusedSimpArgs false
set_option linter.unusedVariables false
namespace Go.Proofs.Ytlkodgkagjldaaa
open Go.RowKit Go.Shelf M
attribute [local go_sem] Oper.semAt_some

/-- A line that is handed on. -/
abbrev Ln := { x : ByteArray // x.size ≤ 1048576 }
/-- What a round keeps for the iterator: the captured text, and the walk over it. -/
def KpS (b : Nat) (A B : World) : Prop := (∀ v, A.cell? ⟨b, 0, none⟩ = some v → B.cell? ⟨b, 0, none⟩ = some v) ∧ KeepsWalks A B
theorem KpS.t {b : Nat} {A B C : World} (h : KpS b A B) (k : KpS b B C) : KpS b A C := ⟨fun v hv => k.1 v (h.1 v hv), h.2.trans k.2⟩
theorem KpS.b {b : Nat} {w : World} (W : World) (l : Nat) (o o' : Obj) (hl : w.heap.size ≤ l) (h : W.heap[l]? = some o) (hc : o.isCells = false) (hw : o.isWalk = false) : KpS b W (W.putObj l o') :=
  ⟨fun v hv => cell_kept hv (grownBy_putObj' W l o') (fun r e => by cases e; exact ⟨o, h, hc⟩), KeepsWalks.putObj _ h hw⟩

theorem grown_iterAt (w : World) (k : Nat) (s : ByteArray) (p : Nat) : w.grownBy (w.iterAt k s p) (some k) :=
  ⟨rfl, rfl, rfl, by rw [Lib.iterAt_size]; exact Nat.le_refl _, fun i _ hi => Lib.iterAt_other w k i s p (fun e => hi (by rw [e]))⟩

set_option maxRecDepth 100000 in
set_option maxHeartbeats 1000000 in
theorem linesIn1_in (F : Fence) (n : Nat) (h6 : F.fn 67) (hro : F.round = none) (hn : 1 ≤ n) (l Bs : Nat) (s : ByteArray) (hs : s.size ≤ 1048576) (J Jx : List Ln → World → Prop) (W : World)
    (hJ : AbidesFrom W.heap.size J) (hJx : AbidesFrom W.heap.size Jx)
    (hY : ∀ pre x W, J pre W → pre.length < s.size + 2 → YieldAt F (n - 1) Try.prog l #[.string x.1] W fun e W' =>
      (e = .returned (.bool true) ∧ J (pre ++ [x]) W' ∧ KpS Bs W W') ∨ (e = .returned (.bool false) ∧ Jx (pre ++ [x]) W'))
    (hBs : W.cell? ⟨Bs, 0, none⟩ = some (.string s)) (h0 : J [] W) :
    CallsIn F n Try.prog 67 #[.func (.yield l) #[] #[], .pointer (some ⟨Bs, 0, none⟩)] W fun e W' => (∃ v, e = .returned v) ∧
      ((∃ ys : List Ln, ys.map (·.1) = cutOf s ∧ J ys W') ∨ (∃ pre : List Ln, pre.map (·.1) <+: cutOf s ∧ Jx pre W')) := by
  refine callsIn_of_wp Try.func67 rfl h6 ?_ hro
  simp only [Try.ntmps67, List.size_toArray, List.length_cons, List.length_nil, Nat.reduceAdd, Nat.reduceSub, Array.replicate_succ, Array.replicate_zero, List.push_toArray, List.append_toArray, List.nil_append, List.cons_append]
  gi_wp2
  gi_loopw [3] (fun fv wr => ∃ (pre : List Ln) (f pos : Nat), fv = .int .i64 f ∧ f ≤ pos ∧ pos ≤ s.size ∧ pre.length ≤ pos ∧ Hid (wr.heap[W.heap.size]? = some (.stringIter s pos)) ∧ wr.cell? ⟨Bs, 0, none⟩ = some (.string s) ∧ Hid (cutOf s = pre.map (·.1) ++ restAt s f pos) ∧ J pre wr) (fun _ wr => s.size - wr.iterPos W.heap.size)
  case atStart =>
    refine ⟨[], 0, 0, rfl, by omega, by omega, by simp, heap_alloc_new W _, cell_keep (below_alloc W _) hBs, show _ = _ by rw [rest_zero]; rfl, hJ _ _ _ none h0 (World.grownBy_alloc W _ none) (fun r e => by cases e)⟩
  case round =>
    obtain ⟨pre, f, pos, rfl, hfp, hps, hpl, HK, hc, H, hJp⟩ := hrel
    have hmov : ∀ p, J pre (wr.iterAt W.heap.size s p) := fun p => hJ _ _ _ _ hJp (grown_iterAt wr _ s p) (fun r e => by cases e; exact ⟨Nat.le_refl _, _, HK.out, rfl⟩)
    have hcell : ∀ p, (wr.iterAt W.heap.size s p).cell? ⟨Bs, 0, none⟩ = some (.string s) := fun p => cell_kept hc (grown_iterAt wr _ s p) (fun r e => by cases e; exact ⟨_, HK.out, rfl⟩)
    have hat : ∀ p, (wr.iterAt W.heap.size s p).heap[W.heap.size]? = some (.stringIter s p) := fun p => Lib.iterAt_heap wr _ s pos p HK.out
    have HMOV := Lib.hid hmov
    have HAT := Lib.hid hat
    clear hmov hat
    by_cases hlt : pos < s.size
    · have hnx := fun ty => Lib.run_next_any_at (P := Try.prog) wr W.heap.size s pos ty HK.out hlt
      obtain ⟨d1, d2, d3, d4⟩ := decode_ten s pos hlt
      have D1 := Lib.hid d1
      have D4 := Lib.hid d4
      clear d1 d4
      by_cases he : (Utf8.decode s pos).1 = 10
      · have hb2 : (((Utf8.decode s pos).1 : Int) != 10) = false := by simp [he]
        have h10 := D1.out.1 he
        have hw1 : (Utf8.decode s pos).2 = 1 := by
          rw [decode_ascii s pos hlt (by omega)]
        rw [hw1] at hnx
        have hn := Lib.hid (rest_nl s hfp hlt h10)
        have hxl : (s.extract f (pos + 1)).size ≤ 1048576 := by rw [extract_size s f (pos + 1) (by omega)]; omega
        obtain ⟨fn, tmps, assign, body, hy, hR⟩ := hY pre ⟨s.extract f (pos + 1), hxl⟩ _ (HMOV.out (pos + 1)) (by omega)
        dsimp only at hy
        have HE := Lib.hid he
        clear he hw1 h10
        gi_wp2
        refine hR.mono ?_
        clear hR hy
        rintro e W3 (⟨rfl, hJ3, hk3⟩ | ⟨rfl, hJx3⟩)
        · have hc3 := hk3.1 _ (hcell (pos + 1))
          have HK3 := Lib.hid (hk3.2.same _ _ (HAT.out (pos + 1)) rfl)
          have H3 := Lib.hid (show cutOf s = (pre ++ [(⟨s.extract f (pos + 1), hxl⟩ : Ln)]).map (·.1) ++ restAt s (pos + 1) (pos + 1) by rw [H.out, hn.out]; simp)
          gi_wp2
          go_roundw
          case rel => exact ⟨_, pos + 1, pos + 1, by go_num, by omega, by omega, by simp; omega, HK3.out, hc3, H3.out, hJ3⟩
          case measure => rw [iterPos_of HK3.out, iterPos_of HK.out]; omega
        · gi_wp2
          refine bodyPost_ret (results_none rfl _ _ _) rfl ?_
          refine ⟨⟨_, rfl⟩, .inr ⟨_, ⟨restAt s (pos + 1) (pos + 1), ?_⟩, hJx3⟩⟩
          rw [H.out, hn.out]; simp
      · have hb2 : (((Utf8.decode s pos).1 : Int) != 10) = true := by simp; omega
        have hne : (s[pos]'hlt).toNat ≠ 10 := fun h => he (D1.out.2 h)
        have hn := Lib.hid (rest_some s (i := f) pos hfp (Utf8.decode s pos).2 d3 (fun k hk hlt2 => by
          by_cases e0 : k = 0
          · subst e0; exact hne
          · exact D4.out k hk (by omega) hlt2))
        have HE := Lib.hid he
        clear he hne hY
        gi_wp2
        go_roundw
        case rel => exact ⟨pre, f, _, rfl, by omega, d3, by omega, HAT.out _, hcell _, show _ = _ by rw [H.out, hn.out], HMOV.out _⟩
        case measure => rw [iterPos_of (HAT.out _), iterPos_of HK.out]; omega
    · have hnx := fun ty => Lib.run_next_end_at (P := Try.prog) wr W.heap.size s pos ty HK.out hlt
      have hn := Lib.hid (rest_end s hfp (show pos = s.size by omega))
      by_cases hf : f < s.size
      · have hxl : (s.extract f s.size).size ≤ 1048576 := by rw [extract_size s f s.size (by omega)]; omega
        obtain ⟨fn, tmps, assign, body, hy, hR⟩ := hY pre ⟨s.extract f s.size, hxl⟩ _ hJp (by omega)
        dsimp only at hy
        have H3 := Lib.hid (show cutOf s = (pre ++ [(⟨s.extract f s.size, hxl⟩ : Ln)]).map (·.1) by rw [H.out, hn.out, if_pos hf]; simp)
        gi_wp2
        refine hR.mono ?_
        clear hR hy
        rintro e W3 (⟨rfl, hJ3, hk3⟩ | ⟨rfl, hJx3⟩)
        · gi_wp2
          go_end0
          exact ⟨⟨_, rfl⟩, .inl ⟨_, H3.out.symm, hJ3⟩⟩
        · gi_wp2
          go_end0
          exact ⟨⟨_, rfl⟩, .inr ⟨_, ⟨[], by rw [H3.out]; simp⟩, hJx3⟩⟩
      · have H3 := Lib.hid (show cutOf s = pre.map (·.1) by rw [H.out, hn.out, if_neg hf]; simp)
        clear hY
        gi_wp2
        go_end0
        exact ⟨⟨_, rfl⟩, .inl ⟨_, H3.out.symm, hJp⟩⟩

set_option maxHeartbeats 1000000 in
theorem linesIn_in (F : Fence) (n : Nat) (h5 : F.fn 44) (hro : F.round = none) (s : ByteArray) (w : World) :
    CallsIn F n Try.prog 44 #[.string s] w fun e w' => e = .returned (.func (.func 67) #[] #[.pointer (some ⟨w.heap.size, 0, none⟩)]) ∧ w' = w.alloc (.cells #[.string s] 9) := by
  refine callsIn_of_wp Try.func44 rfl h5 ?_ hro
  simp only [Try.ntmps44, List.size_toArray, List.length_cons, List.length_nil, Nat.reduceAdd, Nat.reduceSub, Array.replicate_succ, Array.replicate_zero, List.push_toArray, List.append_toArray, List.nil_append, List.cons_append]
  gi_wp2
  go_ret
  exact ⟨rfl, rfl⟩

theorem linesIn_stops (F : Fence) (n : Nat) (h6 : F.fn 67) (hro : F.round = none) (hn : 1 ≤ n) (Bs : Nat) (s : ByteArray) (hs : s.size ≤ 1048576) (w : World) (hB : Bs < w.heap.size) (hc : w.cell? ⟨Bs, 0, none⟩ = some (.string s)) :
    SeqStopsK F n Try.prog 67 #[.pointer (some ⟨Bs, 0, none⟩)] (fun x : Ln => #[Value.string x.1]) (KpS Bs) (fun ys => ys.map (·.1) = cutOf s) (fun pre => pre.map (·.1) <+: cutOf s) (s.size + 2) w := fun l J Jx W hW hJ hJx hY h0 =>
  linesIn1_in F n h6 hro hn l Bs s hs J Jx W hJ hJx hY ((hW.cell (p := ⟨Bs, 0, none⟩) hB).trans hc) h0

/-- Between two rounds: the lines so far lie in their box; nothing has been answered yet. -/
def LI (N : Nat) (w : World) (pre : List Ln) (W : World) : Prop :=
  ∃ v, Boxed W (N + 2) 25 v ∧ OwnV W (N + 4) v (pre.map (·.1)) ∧ N + 4 ≤ W.heap.size ∧ pre.length ≤ 40 ∧ (∀ x ∈ pre, x.1.size ≤ 30) ∧ Boxed W N 25 (.slice none 0 0) ∧ Boxed W (N + 1) 4 (.bool false) ∧ Below N w W
/-- A round has left: there are too many lines, or one is too long. -/
def LX (N : Nat) (w : World) (c : Code) (pre : List Ln) (W : World) : Prop :=
  c = .ret ∧ Boxed W N 25 (.slice none 0 0) ∧ Boxed W (N + 1) 4 (.bool false) ∧ (40 < pre.length ∨ ∃ x ∈ pre, 30 < x.1.size) ∧ Below N w W

theorem ownsRow_less {w : World} {b b2 : Nat} {e : TypeId} {size : Nat} {v : Value} {n : Nat} {xs : List Value} (h : w.ownsRow b e size v n xs) (hb : b2 ≤ b) : w.ownsRow b2 e size v n xs := by
  refine ⟨h.1, ?_⟩
  rcases h.2 with h1 | ⟨g, cap, cur, h1, h2, h3⟩
  · exact .inl h1
  · exact .inr ⟨g, cap, cur, h1, by omega, h3⟩
theorem boxed_far {W W' : World} {row : Option Nat} {B b : Nat} {t : TypeId} {v : Value} (h : Boxed W b t v) (hg : W.grownBy W' row) (hr : ∀ r, row = some r → B ≤ r ∧ ∃ o : Obj, W.heap[r]? = some o ∧ o.isCells = false) : Boxed W' b t v := by
  refine h.kept hg (fun e => ?_)
  obtain ⟨_, o, ho, hc⟩ := hr b e.symm
  have h2 : W.heap[b]? = some (.cells #[v] t (0, 0)) := h
  rw [h2] at ho
  cases ho
  cases hc
theorem ownV_far {W W' : World} {row : Option Nat} {B base : Nat} {v : Value} {l : List ByteArray} (h : OwnV W base v l) (hg : W.grownBy W' row) (hr : ∀ r, row = some r → B ≤ r ∧ ∃ o : Obj, W.heap[r]? = some o ∧ o.isCells = false) : OwnV W' base v l := by
  refine h.kept hg (fun g e hv => ?_)
  obtain ⟨_, o, ho, hc⟩ := hr g e
  rcases h.row.2 with ⟨h1, _⟩ | ⟨g', cap, cur, h1, _, h3, _⟩
  · rw [h1] at hv; cases hv
  · rw [h1] at hv
    have : g' = g := by simpa [Value.ownBlock] using hv
    subst this
    rw [h3] at ho
    cases ho
    cases hc
theorem LI.own {N B : Nat} {w : World} (hN : N ≤ B) (hw : N ≤ w.heap.size) : OwnFrom B (LI N w) := by
  rintro pre W W' row ⟨v, h1, h2, hsz, h3, h4, h5, h6, h7⟩ hg hr
  exact ⟨v, boxed_far h1 hg hr, ownV_far h2 hg hr, Nat.le_trans hsz hg.size, h3, h4, boxed_far h5 hg hr, boxed_far h6 hg hr, h7.grown hg (Nat.le_trans hw h7.size) (fun k e => Nat.le_trans hN (hr k e).1)⟩
theorem LX.own {N B : Nat} {w : World} (hN : N ≤ B) (hw : N ≤ w.heap.size) (c : Code) : OwnFrom B (LX N w c) := by
  rintro pre W W' row ⟨h1, h2, h3, h4, h5⟩ hg hr
  exact ⟨h1, boxed_far h2 hg hr, boxed_far h3 hg hr, h4, h5.grown hg (Nat.le_trans hw h5.size) (fun k e => Nat.le_trans hN (hr k e).1)⟩

theorem fits_of {L : List ByteArray} {ys : List Ln} (h : ys.map (·.1) = L) (h1 : ys.length ≤ 40) (h2 : ∀ x ∈ ys, x.1.size ≤ 30) : fits L = true := by
  subst h
  unfold fits
  simp
  exact ⟨h1, fun x hx hm => h2 ⟨x, hx⟩ hm⟩
theorem fits_not {L : List ByteArray} {pre : List Ln} (h : pre.map (·.1) <+: L) (h1 : 40 < pre.length ∨ ∃ x ∈ pre, 30 < x.1.size) : fits L = false := by
  obtain ⟨r, rfl⟩ := h
  rw [Bool.eq_false_iff]
  intro hf
  unfold fits at hf
  rw [Bool.and_eq_true, List.all_eq_true] at hf
  rcases h1 with h1 | ⟨x, hx, h1⟩
  · have := of_decide_eq_true hf.1
    simp at this
    omega
  · have := hf.2 x.1 (List.mem_append_left _ (List.mem_map_of_mem hx))
    simp at this
    omega

set_option maxRecDepth 100000 in
set_option maxHeartbeats 2000000 in
theorem implLinesOf_in (F : Fence) (n : Nat) (h3 : F.fn 15) (h4 : F.fn 44) (h5 : F.fn 67) (hro : F.round = none) (hn : 3 ≤ n) (s : ByteArray) (hs : s.size ≤ 1048576) (w : World) :
    CallsIn F n Try.prog 15 #[.string s] w fun e W' => ∃ v, e = .returned (.tuple #[v, .bool (linesOf s).2]) ∧ OwnV W' w.heap.size v (linesOf s).1 ∧ Below w.heap.size w W' := by
  have h1 : 1 ≤ n := by omega
  obtain ⟨i0, hi, hz0, hz1, hz2⟩ := info_parts str_info
  refine callsIn_of_wp_marks Try.func15 rfl h3 ?_ hro
  simp only [Try.ntmps15, List.size_toArray, List.length_cons, List.length_nil, Nat.reduceAdd, Nat.reduceSub, Array.replicate_succ, Array.replicate_zero, List.push_toArray, List.append_toArray, List.nil_append, List.cons_append]
  gi_wp2_with (gi_at_call 44; refine (linesIn_in F (n - 1) h4 hro _ _).mono ?_; rintro e w' ⟨rfl, rfl⟩)
  have b0 := ((((Boxed.new w 25 (.slice none 0 0)).alloc (.cells #[.bool false] 4)).alloc (.cells #[.slice none 0 0] 25)).alloc (.cells #[.string s] 9))
  have b1 := (((Boxed.new (w.alloc (.cells #[.slice none 0 0] 25)) 4 (.bool false)).alloc (.cells #[.slice none 0 0] 25)).alloc (.cells #[.string s] 9))
  have b2 := ((Boxed.new ((w.alloc (.cells #[.slice none 0 0] 25)).alloc (.cells #[.bool false] 4)) 25 (.slice none 0 0)).alloc (.cells #[.string s] 9))
  have b3 := Boxed.new (((w.alloc (.cells #[.slice none 0 0] 25)).alloc (.cells #[.bool false] 4)).alloc (.cells #[.slice none 0 0] 25)) 9 (.string s)
  have hB0 : Below w.heap.size w ((((w.alloc (.cells #[.slice none 0 0] 25)).alloc (.cells #[.bool false] 4)).alloc (.cells #[.slice none 0 0] 25)).alloc (.cells #[.string s] 9)) := ((((Below.refl _ w).alloc (Nat.le_refl _) _).alloc (by simp) _).alloc (by simp; omega) _).alloc (by simp; omega) _
  simp only [World.size_alloc] at b1 b2 b3
  refine wpIn_rangeFunc_ownF hro h1 (gf := 67) (lb := #[.pointer (some ⟨w.heap.size + 1 + 1 + 1, 0, none⟩)]) rfl h5 (enters_of Try.func67 (by kernel_rfl) rfl)
    (linesIn_stops F (n - 1) h5 hro (by omega) (w.heap.size + 1 + 1 + 1) s hs _ (by simp) b3.cell) KpS.t KpS.b (Below.refl _ _) (fun _ => rfl)
    (LI w.heap.size w) (LX w.heap.size w) (LI.own (by simp; omega) (Nat.le_refl _)) (LX.own (by simp; omega) (Nat.le_refl _))
    ⟨_, b2, OwnV.nil_, by simp, by simp, by simp, b0, b1, hB0⟩
    (fun x => { tmps := #[.string s, undef, .pointer (some ⟨w.heap.size, 0, none⟩), .pointer (some ⟨w.heap.size + 1, 0, none⟩), .pointer (some ⟨w.heap.size + 1 + 1, 0, none⟩), .string x.1, .string s,
      .func (.func 67) #[] #[.pointer (some ⟨w.heap.size + 1 + 1 + 1, 0, none⟩)], .string x.1, undef, undef, undef, undef, undef, undef, undef, undef, undef, undef, undef, undef, undef], defers := [] }) ?assign ?body ?done ?stop
  case assign =>
    intro l x W K hK
    gi_wp2
    exact hK
  case body =>
    rintro l pre x W ⟨v, hv, hown, hW4, hlen, hsm, hb0, hb1, hB⟩ hlt
    have hxl := x.2
    obtain ⟨k, HK⟩ : ∃ k, Hid (pre.length = k) := ⟨_, rfl⟩
    obtain ⟨A, cap, rfl, hn1, hn2⟩ := hown.form (n := k) (by simp [HK.out])
    have hk40 : k ≤ 40 := by rw [← HK.out]; exact hlen
    have hc := hv.cell
    have hc0 := hb0.cell
    have hf0 := hb0.frozen
    have hc1 := hb1.cell
    have hf1 := hb1.frozen
    have HSM := Lib.hid hsm
    clear hsm hlen hlt
    have leave : (40 < (pre ++ [x]).length ∨ ∃ y ∈ pre ++ [x], 30 < y.1.size) → KeepsOthers W ((W.setCell ⟨w.heap.size, 0, none⟩ (.slice none 0 0)).setCell ⟨w.heap.size + 1, 0, none⟩ (.bool false)) ∧ LX w.heap.size w .ret (pre ++ [x]) ((W.setCell ⟨w.heap.size, 0, none⟩ (.slice none 0 0)).setCell ⟨w.heap.size + 1, 0, none⟩ (.bool false)) := by
      intro hbad
      refine ⟨(KeepsOthers.setCell _ _ _).trans (KeepsOthers.setCell _ _ _), rfl, ?_, ?_, hbad, (hB.setCell (p := ⟨w.heap.size, 0, none⟩) (Nat.le_refl _) _).setCell (p := ⟨w.heap.size + 1, 0, none⟩) (by simp) _⟩
      · exact (hb0.set _).kept (grownBy_setCell' _ _ _) (fun e => by injection e with e; omega)
      · exact (hb1.kept (grownBy_setCell' _ _ _) (fun e => by injection e with e; omega)).set _
    have LEAVE := Lib.hid leave
    clear leave
    by_cases h40 : k = 40
    · have hq : ((k : Int) == 40) = true := by simp [h40]
      have hbad := Lib.hid (LEAVE.out (.inl (by simp [HK.out, h40])))
      clear h40
      gi_wp2
      exact hbad.out
    · have hq : ((k : Int) == 40) = false := by simp; omega
      by_cases h30 : 30 < x.1.size
      · have hq2 : decide ((30 : Int) < (x.1.size : Int)) = true := by simp; omega
        have hbad := Lib.hid (LEAVE.out (.inr ⟨x, by simp, h30⟩))
        gi_wp2
        exact hbad.out
      · have hq2 : decide ((30 : Int) < (x.1.size : Int)) = false := by simp; omega
        have hrow : W.ownsRow (w.heap.size + 4) 9 1 (.slice A k cap) k ((pre.map (·.1)).map Value.string) := by
          have h := hown.row
          rwa [List.length_map, HK.out] at h
        have hrow0 := Lib.hid (ownsRow_less hrow (show w.heap.size ≤ w.heap.size + 4 by omega))
        have hold : ∀ g, (Value.slice A k cap).ownBlock = some g → w.heap.size + 4 ≤ g := fun g e => (hrow.lt g e).1
        have HOLD := Lib.hid hold
        clear hold
        have hBs := hB.size
        gi_wp2_with (gi_at_builtin; refine wpListIn_append_own _ rfl _ _ 25 rfl (w.heap.size + 4) 9 i0 (.string ByteArray.empty) 1 16 Try.underlying25 hi hz0 hz1 hz2 rfl (by decide) (.slice A k cap) _ _ rfl (hrow.alloc _) ⟨W.heap.size, 0, none⟩ 1 1 [.string x.1] rfl rfl (cell_one_new _ _ _) (by simp [Value.oneCell']) (by unfold maxLen; omega) (by omega) (by simp; omega) ?_; intro v' w1 hown' hgrow _; obtain ⟨g', cap', rfl⟩ := ownsRow_succ hown'; obtain ⟨hv1, hv2, hr2, hk2, hb2⟩ := hv.appended (by decide) hrow0.out hBs (by omega) (ownsRow_less hown' (show w.heap.size ≤ w.heap.size + 4 by omega)) hgrow; have hcc := hv1.cell; have hff := hv1.frozen)
        have hb0' : Boxed w1 w.heap.size 25 (.slice none 0 0) := (hb0.alloc _).kept hgrow (fun e => by have := HOLD.out _ e.symm; omega)
        have hb1' : Boxed w1 (w.heap.size + 1) 4 (.bool false) := (hb1.alloc _).kept hgrow (fun e => by have := HOLD.out _ e.symm; omega)
        have ho2 := hown'.kept (grownBy_setCell' w1 (w.heap.size + 2) (.slice (some ⟨g', 0, none⟩) (k + 1) cap')) (.inr (fun e => by
          have h1 := (hown'.lt g' rfl).1
          have h2 : g' = w.heap.size + 2 := by simpa [Value.ownBlock] using e
          omega))
        refine ⟨hk2, ⟨fun u hu => ?_, hk2.walks⟩, _, hv2, ⟨?_, ?_⟩, ?_, ?_, ?_, ?_, ?_, hB.trans hb2⟩
        · have hlt : w.heap.size + 1 + 1 + 1 < W.heap.size := by omega
          have e1 : (W.alloc (.cells #[.string x.1] 9)).cell? ⟨w.heap.size + 1 + 1 + 1, 0, none⟩ = some u := cell_keep (below_alloc W _) hu
          have e2 : w1.cell? ⟨w.heap.size + 1 + 1 + 1, 0, none⟩ = some u := hgrow.cell e1 (fun e => by have := HOLD.out _ e.symm; simp at this; omega)
          exact (World.cell?_setCell_other w1 _ _ _ (fun e => by injection e with e _ _; omega)).trans e2
        · have e3 : ((pre ++ [x]).map (·.1)).length = k + 1 := by simp [HK.out]
          rw [e3]
          have e4 : ((pre ++ [x]).map (·.1)).map Value.string = (pre.map (·.1)).map Value.string ++ [.string x.1] := by simp
          rw [e4]
          exact ho2
        · intro y hy
          simp only [List.map_append, List.map_cons, List.map_nil, List.mem_append, List.mem_singleton] at hy
          rcases hy with hy | hy
          · exact hown.small y hy
          · rw [hy]; unfold maxLen; omega
        · exact Nat.le_trans hW4 hk2.size
        · simp [HK.out]; omega
        · intro y hy
          rcases List.mem_append.1 hy with h | h
          · exact HSM.out y h
          · simp at h; subst h; omega
        · exact hb0'.kept (grownBy_setCell' _ _ _) (fun e => by injection e with e; omega)
        · exact hb1'.kept (grownBy_setCell' _ _ _) (fun e => by injection e with e; omega)
  case done =>
    rintro D ys W hD hS ⟨v, hv, hown, hW4, hlen, hsm, hb0, hb1, hB⟩ hK
    have hc := hv.cell
    have hc0 := hb0.cell
    have hf0 := hb0.frozen
    have hc1 := hb1.cell
    have hf1 := hb1.frozen
    obtain ⟨k, HK⟩ : ∃ k, Hid (ys.length = k) := ⟨_, rfl⟩
    obtain ⟨A, cap, rfl, hn1, hn2⟩ := hown.form (n := k) (by simp [HK.out])
    have HF := Lib.hid (show linesOf s = (cutOf s, true) from if_pos (fits_of hS hlen hsm))
    gi_wp2
    have hk2 : KeepsOthers W ((W.setCell ⟨w.heap.size, 0, none⟩ (.slice A k cap)).setCell ⟨w.heap.size + 1, 0, none⟩ (.bool true)) := (KeepsOthers.setCell _ _ _).trans (KeepsOthers.setCell _ _ _)
    have hK2 := hk2.same D _ hK rfl
    have hx0 : Boxed ((W.setCell ⟨w.heap.size, 0, none⟩ (.slice A k cap)).setCell ⟨w.heap.size + 1, 0, none⟩ (.bool true)) w.heap.size 25 (.slice A k cap) := (hb0.set _).kept (grownBy_setCell' _ _ _) (fun e => by injection e with e; omega)
    have hx1 : Boxed ((W.setCell ⟨w.heap.size, 0, none⟩ (.slice A k cap)).setCell ⟨w.heap.size + 1, 0, none⟩ (.bool true)) (w.heap.size + 1) 4 (.bool true) := (hb1.kept (grownBy_setCell' _ _ _) (fun e => by injection e with e; omega)).set _
    have ho1 : OwnV (W.setCell ⟨w.heap.size, 0, none⟩ (.slice A k cap)) (w.heap.size + 4) (.slice A k cap) (ys.map (·.1)) := hown.kept (grownBy_setCell' _ _ _) (fun g e h => by injection e with e; have := (hown.lt h).1; omega)
    have ho2 : OwnV ((W.setCell ⟨w.heap.size, 0, none⟩ (.slice A k cap)).setCell ⟨w.heap.size + 1, 0, none⟩ (.bool true)) (w.heap.size + 4) (.slice A k cap) (ys.map (·.1)) := ho1.kept (grownBy_setCell' _ _ _) (fun g e h => by injection e with e; have := (ho1.lt h).1; omega)
    have hb2 := (hB.setCell (p := ⟨w.heap.size, 0, none⟩) (Nat.le_refl _) (.slice A k cap)).setCell (p := ⟨w.heap.size + 1, 0, none⟩) (by simp) (.bool true)
    generalize (W.setCell ⟨w.heap.size, 0, none⟩ (.slice A k cap)).setCell ⟨w.heap.size + 1, 0, none⟩ (.bool true) = W2 at *
    have hfar : ∀ r, some D = some r → w.heap.size ≤ r ∧ ∃ o : Obj, W2.heap[r]? = some o ∧ o.isCells = false := fun r e => by cases e; exact ⟨by simp at hD; omega, _, hK2, rfl⟩
    have hy0 := (boxed_far hx0 (grownBy_putObj' W2 D (.deferred none)) hfar).cell
    have hy1 := (boxed_far hx1 (grownBy_putObj' W2 D (.deferred none)) hfar).cell
    refine ⟨by simp, .inl ⟨_, _, rfl, run_takeDeferred hK2, ?_⟩⟩
    refine ⟨.tuple #[.slice A k cap, .bool true], by simp [results, Try.results15, go_sem, hy0, hy1], .slice A k cap, by rw [HF.out], ?_, hb2.grown (grownBy_putObj' W2 D (.deferred none)) hb2.size (fun g e => by cases e; simp at hD; omega)⟩
    rw [HF.out]
    show OwnV _ _ _ (cutOf s)
    rw [← hS]
    exact (ownV_far ho2 (grownBy_putObj' W2 D (.deferred none)) hfar).more (by omega)
  case stop =>
    rintro D c pre W hD hS ⟨rfl, hb0, hb1, hbad, hB⟩ hK
    have hc0 := hb0.cell
    have hc1 := hb1.cell
    have HF := Lib.hid (show linesOf s = ([], false) from if_neg (by simp [fits_not hS hbad]))
    gi_wp2
    have hfar : ∀ r, some D = some r → w.heap.size ≤ r ∧ ∃ o : Obj, W.heap[r]? = some o ∧ o.isCells = false := fun r e => by cases e; exact ⟨by simp at hD; omega, _, hK, rfl⟩
    have hy0 := (boxed_far hb0 (grownBy_putObj' W D (.deferred none)) hfar).cell
    have hy1 := (boxed_far hb1 (grownBy_putObj' W D (.deferred none)) hfar).cell
    refine ⟨by simp, .inl ⟨_, _, rfl, run_takeDeferred hK, ?_⟩⟩
    refine ⟨.tuple #[.slice none 0 0, .bool false], by simp [results, Try.results15, go_sem, hy0, hy1], .slice none 0 0, by rw [HF.out], by rw [HF.out]; exact OwnV.nil_, hB.grown (grownBy_putObj' W D (.deferred none)) hB.size (fun g e => by cases e; simp at hD; omega)⟩

theorem implLinesOf_any (s : ByteArray) (w : World) (hs : s.size ≤ 1048576) :
    Calls Try.prog 15 #[.string s] w fun e w' => ∃ v, e = .returned (.tuple #[v, .bool (linesOf s).2]) ∧ OwnV w' w.heap.size v (linesOf s).1 ∧ Below w.heap.size w w' :=
  (callsIn_wide (n := 6)).1 (implLinesOf_in Fence.wide 6 trivial trivial trivial rfl (by omega) s hs w)

end Go.Proofs.Ytlkodgkagjldaaa
