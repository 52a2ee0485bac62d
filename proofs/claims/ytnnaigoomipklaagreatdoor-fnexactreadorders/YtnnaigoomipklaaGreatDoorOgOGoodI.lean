/-
  Good orders, the program's: kinds of orders behind an interface, and whether each is good.
-/
import Derived.Test.YtnnaigoomipklaaGreatDoorOgOMem
import Derived.Test.YtnnaigoomipklaaGreatDoorOgOMath
import Derived.Test.YtnnaigoomipklaaGreatDoorOgWhole
set_option linter.unusedSimpArgs false
set_option linter.unusedVariables false
namespace Go.Proofs.YtnnaigoomipklaaGreatDoor.M
open Go

/-- Lines that an order may bring, as the program asks. -/
theorem good_whole {l : List ByteArray} : (goodB l && wholeB l) = (l.all (fun s => lineB s && endsB s) && decide (l.length ≤ 40)) := by
  rw [Bool.eq_iff_iff]
  simp only [Bool.and_eq_true, List.all_eq_true, decide_eq_true_eq]
  constructor
  · rintro ⟨hg, hw⟩
    refine ⟨fun s hs => ?_, goodB_len hg⟩
    obtain ⟨j, hj⟩ := List.mem_iff_getElem?.1 hs
    obtain ⟨h1, h2⟩ := goodB_at hg hj
    refine ⟨h1, ?_⟩
    have hlt := (List.getElem?_eq_some_iff.1 hj).1
    rcases Nat.lt_or_ge (j + 1) l.length with h | h
    · exact h2 h
    · have e : j = l.length - 1 := by omega
      subst e
      rw [← wholeB_last rfl (by omega) hj]
      exact hw
  · rintro ⟨ha, hl⟩
    refine ⟨?_, ?_⟩
    · rw [goodB_ok (fun j s hj => ?_)]
      · simpa using hl
      · obtain ⟨h1, h2⟩ := ha s (List.mem_of_getElem? hj)
        unfold okAt
        rw [h1, h2]
        simp
    · rcases Nat.eq_zero_or_pos l.length with h0 | h0
      · exact wholeB_nil h0
      · have hj : l[l.length - 1]? = some (l[l.length - 1]'(by omega)) := List.getElem?_eq_getElem (by omega)
        rw [wholeB_last rfl h0 hj]
        exact (ha _ (List.mem_of_getElem? hj)).2
theorem linesO_impl (l : List ByteArray) : linesO l = (!decide (l.length = 0) && (goodB l && wholeB l) && !l.any (fun s => decide (s = dotA))) := by
  rw [good_whole]
  unfold linesO lineO
  rw [Bool.eq_iff_iff]
  simp only [Bool.and_eq_true, List.all_eq_true, decide_eq_true_eq, Bool.not_eq_true', decide_eq_false_iff_not, List.any_eq_false]
  constructor
  · rintro ⟨h1, h2, h3⟩
    exact ⟨⟨by omega, fun s hs => ⟨(h1 s hs).1, (h1 s hs).2.1⟩, h3⟩, fun s hs => (h1 s hs).2.2⟩
  · rintro ⟨⟨h1, h2, h3⟩, h4⟩
    exact ⟨fun s hs => ⟨(h2 s hs).1, (h2 s hs).2, h4 s hs⟩, by omega, h3⟩

/-- What isFrom asks. -/
def fromB (x : Od) (least : Int) : Bool := decide (least ≤ x.fr) && decide (x.fr ≤ x.to_) && decide (x.to_ ≤ 1000)
def oneB (x : Od) : Bool := decide (x.to_ = x.fr)
theorem orderB_1 {x : Od} (h : x.kd = 1) : orderB x = (fromB x 0 && oneB x && linesO x.new) := by
  unfold orderB fromB oneB
  rw [if_pos h]
  rw [Bool.eq_iff_iff]
  simp only [Bool.and_eq_true, decide_eq_true_eq]
  constructor
  · rintro ⟨⟨⟨h1, h2⟩, h3, h4⟩, h5, h6⟩; exact ⟨⟨⟨⟨h1, h3⟩, h4⟩, h5⟩, h6⟩
  · rintro ⟨⟨⟨⟨h1, h3⟩, h4⟩, h5⟩, h6⟩; exact ⟨⟨⟨h1, by omega⟩, h3, h4⟩, h5, h6⟩
theorem orderB_2 {x : Od} (h : x.kd = 2) : orderB x = (fromB x 1 && oneB x && linesO x.new) := by
  unfold orderB fromB oneB
  rw [if_neg (by omega), if_pos h]
  rw [Bool.eq_iff_iff]
  simp only [Bool.and_eq_true, decide_eq_true_eq]
  constructor
  · rintro ⟨⟨⟨h1, h2⟩, h3, h4⟩, ⟨h5, h7⟩, h6⟩; exact ⟨⟨⟨⟨h7, h3⟩, h4⟩, h5⟩, h6⟩
  · rintro ⟨⟨⟨⟨h1, h3⟩, h4⟩, h5⟩, h6⟩; exact ⟨⟨⟨by omega, by omega⟩, h3, h4⟩, ⟨h5, h1⟩, h6⟩
theorem orderB_3 {x : Od} (h : x.kd = 3) : orderB x = (fromB x 1 && linesO x.new) := by
  unfold orderB fromB
  rw [if_neg (by omega), if_neg (by omega), if_pos h]
  rw [Bool.eq_iff_iff]
  simp only [Bool.and_eq_true, decide_eq_true_eq]
  constructor
  · rintro ⟨⟨⟨h1, h2⟩, h3, h4⟩, h5, h6⟩; exact ⟨⟨⟨h5, h3⟩, h4⟩, h6⟩
  · rintro ⟨⟨⟨h1, h3⟩, h4⟩, h6⟩; exact ⟨⟨⟨by omega, by omega⟩, h3, h4⟩, h1, h6⟩
theorem orderB_4 {x : Od} (h : x.kd = 4) : orderB x = (fromB x 1 && decide (x.new.length = 0)) := by
  unfold orderB fromB
  rw [if_neg (by omega), if_neg (by omega), if_neg (by omega), if_pos h]
  rw [Bool.eq_iff_iff]
  simp only [Bool.and_eq_true, decide_eq_true_eq]
  constructor
  · rintro ⟨⟨⟨h1, h2⟩, h3, h4⟩, h5, h6⟩; exact ⟨⟨⟨h5, h3⟩, h4⟩, h6⟩
  · rintro ⟨⟨⟨h1, h3⟩, h4⟩, h6⟩; exact ⟨⟨⟨by omega, by omega⟩, h3, h4⟩, h1, h6⟩
theorem orderB_5 {x : Od} (h : x.kd = 5) : orderB x = (fromB x 1 && oneB x && decide (x.new.length = 0)) := by
  unfold orderB fromB oneB
  rw [if_neg (by omega), if_neg (by omega), if_neg (by omega), if_neg (by omega)]
  rw [Bool.eq_iff_iff]
  simp only [Bool.and_eq_true, decide_eq_true_eq]
  constructor
  · rintro ⟨⟨⟨h1, h2⟩, h3, h4⟩, ⟨⟨h7, h5⟩, h6⟩, h8⟩; exact ⟨⟨⟨⟨h5, h3⟩, h4⟩, h6⟩, h8⟩
  · rintro ⟨⟨⟨⟨h1, h3⟩, h4⟩, h5⟩, h6⟩; exact ⟨⟨⟨by omega, by omega⟩, h3, h4⟩, ⟨⟨h, h1⟩, h5⟩, h6⟩
theorem orderB_not {x : Od} (h : ¬ (x.kd = 1 ∨ x.kd = 2 ∨ x.kd = 3 ∨ x.kd = 4 ∨ x.kd = 5)) : orderB x = false := by
  rw [Bool.eq_false_iff]
  intro hx
  exact h (order_kind hx)
theorem orders_bad_at {p : List Od} {k : Nat} {x : Od} (h : p[k]? = some x) (hx : orderB x = false) : ordersB p = false := by
  rw [Bool.eq_false_iff]
  intro hp
  have := List.all_eq_true.1 (orders_all hp).1 x (List.mem_of_getElem? h)
  rw [hx] at this
  cases this
theorem orders_many {p : List Od} (h : ¬ p.length ≤ 60) : ordersB p = false := by
  rw [Bool.eq_false_iff]
  intro hp
  exact h (orders_all hp).2
theorem orders_ok {p : List Od} (h : ∀ (k : Nat) x, p[k]? = some x → orderB x = true) (hl : p.length ≤ 60) : ordersB p = true := by
  unfold ordersB
  rw [Bool.and_eq_true]
  exact ⟨List.all_eq_true.2 (fun x hx => by obtain ⟨k, hk⟩ := List.mem_iff_getElem?.1 hx; exact h k x hk), by simpa using hl⟩

end Go.Proofs.YtnnaigoomipklaaGreatDoor.M

namespace Go.Proofs.YtnnaigoomipklaaGreatDoor
open Go.RowKit Go.ChangeShapes Go.WideShapes M

set_option maxHeartbeats 1000000 in
theorem isFrom_any (x : Od) (least : Int) (A : Option Addr) (m c : Nat) (w : World) :
    Calls Tryz.prog 289 #[.agg #[.int .i64 x.fr, .int .i64 x.to_, .slice A m c], .int .i64 least] w fun e w' => e = .returned (.bool (fromB x least)) ∧ Below w.heap.size w w' := by
  have HF := Lib.hid (show fromB x least = (decide (least ≤ x.fr) && decide (x.fr ≤ x.to_) && decide (x.to_ ≤ 1000)) from rfl)
  cases h1 : decide (least ≤ x.fr)
  · have hf := Lib.hid (show fromB x least = false by rw [HF.out, h1]; rfl)
    go_enter Tryz.func289, Tryz.ntmps289
    go_wp2
    go_ret
    exact ⟨ret_bool hf.out.symm, below_alloc _ _⟩
  cases h2 : decide (x.fr ≤ x.to_)
  · have hf := Lib.hid (show fromB x least = false by rw [HF.out, h1, h2]; rfl)
    go_enter Tryz.func289, Tryz.ntmps289
    go_wp2
    go_ret
    exact ⟨ret_bool hf.out.symm, below_alloc _ _⟩
  cases h3 : decide (x.to_ ≤ 1000)
  · have hf := Lib.hid (show fromB x least = false by rw [HF.out, h1, h2, h3]; rfl)
    go_enter Tryz.func289, Tryz.ntmps289
    go_wp2
    go_ret
    exact ⟨ret_bool hf.out.symm, below_alloc _ _⟩
  · have hf := Lib.hid (show fromB x least = true by rw [HF.out, h1, h2, h3]; rfl)
    go_enter Tryz.func289, Tryz.ntmps289
    go_wp2
    go_ret
    exact ⟨ret_bool hf.out.symm, below_alloc _ _⟩

theorem isOne_any (x : Od) (A : Option Addr) (m c : Nat) (w : World) :
    Calls Tryz.prog 290 #[.agg #[.int .i64 x.fr, .int .i64 x.to_, .slice A m c]] w fun e w' => e = .returned (.bool (oneB x)) ∧ Below w.heap.size w w' := by
  cases h : oneB x
  all_goals
    have hq : (x.to_ == x.fr) = oneB x := rfl
    rw [h] at hq
    clear h
    go_enter Tryz.func290, Tryz.ntmps290
    go_wp2
    go_ret
    exact ⟨rfl, below_alloc _ _⟩

theorem bringsNone_any (x : Od) (A : Option Addr) (m c : Nat) (w : World) :
    Calls Tryz.prog 291 #[.agg #[.int .i64 x.fr, .int .i64 x.to_, .slice A m c]] w fun e w' => e = .returned (.bool (decide (m = 0))) ∧ Below w.heap.size w w' := by
  cases h : decide (m = 0)
  all_goals
    have hq : (((m : Nat) : Int) == 0) = decide (m = 0) := by
      rw [Bool.eq_iff_iff]; simp
    rw [h] at hq
    clear h
    go_enter Tryz.func291, Tryz.ntmps291
    go_wp2
    go_ret
    exact ⟨rfl, below_alloc _ _⟩

theorem areWhole_any (a : Option Addr) (n c : Nat) (l : List ByteArray) (w : World) (hl : Strs w a n l) :
    Calls Tryz.prog 75 #[.slice a n c] w fun e w' => e = .returned (.bool (goodB l && wholeB l)) ∧ Below w.heap.size w w' := by
  have HF := Lib.hid (show (isWhole l).1 = (goodB l && wholeB l) by unfold isWhole; cases goodB l <;> simp)
  go_enter Tryz.func75, Tryz.ntmps75
  go_wp2_with fail
  refine (implIsWhole_any a n c l _ hl).mono ?_
  rintro e w1 ⟨rfl, b1⟩
  go_wp2
  go_ret
  exact ⟨ret_bool HF.out, b1⟩

set_option maxHeartbeats 1000000 in
/-- Whether a text stands among some. -/
theorem indexS_any (a : Option Addr) (n c : Nat) (l : List ByteArray) (s : ByteArray) (w : World) (hl : Strs w a n l) :
    Calls Tryz.prog 293 #[.slice a n c, .string s] w fun e w' => ∃ k : Int, e = .returned (.int .i64 k) ∧ decide (0 ≤ k) = l.any (fun t => decide (t = s)) ∧ w = w' := by
  have HL := Lib.hid hl.len
  have hlim := hl.lim
  unfold maxLen at hlim
  go_enter Tryz.func293, Tryz.ntmps293
  go_wp2
  go_loop [8] (fun i => ∃ k : Nat, i = .int .i64 k ∧ k ≤ n ∧ Hid (∀ j t, j < k → l[j]? = some t → t ≠ s)) (fun i => n - (intOf i).toNat)
  case atStart => exact ⟨0, rfl, by omega, fun j t h => by omega⟩
  case round =>
    obtain ⟨k, rfl, hk, H⟩ := hrel
    by_cases hlt : k < n
    · obtain ⟨b, off, t, rfl, ht, hsz, hc⟩ := hl.at_ hlt
      have HT := Lib.hid ht
      clear ht
      by_cases hst : s = t
      · have hb2 : (s.toList == t.toList) = true := by rw [hst]; simp
        have hf := Lib.hid (show l.any (fun t => decide (t = s)) = true from List.any_eq_true.2 ⟨t, List.mem_of_getElem? HT.out, by simp [hst]⟩)
        clear hst
        go_wp2
        go_ret
        exact ⟨_, rfl, by rw [hf.out]; simp, rfl⟩
      · have hb2 := beq_other hst
        have HN := Lib.hid (show ∀ j u, j < k + 1 → l[j]? = some u → u ≠ s from fun j u hj hu => by
          rcases Nat.lt_or_ge j k with h | h
          · exact H.out j u h hu
          · have : j = k := by omega
            subst this
            rw [HT.out] at hu
            injection hu with hu
            rw [← hu]
            exact fun e => hst e.symm)
        clear hst
        go_wp2
        go_round
        case rel => exact ⟨k + 1, by go_num, by omega, HN.out⟩
        case measure => simp [intOf]; omega
    · have hf := Lib.hid (show l.any (fun t => decide (t = s)) = false by
        rw [List.any_eq_false]
        intro t ht
        obtain ⟨j, hj⟩ := List.mem_iff_getElem?.1 ht
        have := H.out j t (by have := (List.getElem?_eq_some_iff.1 hj).1; have := HL.out; omega) hj
        simpa using this)
      go_wp2
      go_ret
      exact ⟨_, rfl, by rw [hf.out]; simp, rfl⟩

theorem containsS_any (a : Option Addr) (n c : Nat) (l : List ByteArray) (s : ByteArray) (w : World) (hl : Strs w a n l) :
    Calls Tryz.prog 292 #[.slice a n c, .string s] w fun e w' => e = .returned (.bool (l.any (fun t => decide (t = s)))) ∧ w = w' := by
  go_enter Tryz.func292, Tryz.ntmps292
  go_wp2_with fail
  refine (indexS_any a n c l s _ hl).mono ?_
  rintro e w1 ⟨k, rfl, hk, rfl⟩
  cases h : decide (0 ≤ k)
  all_goals
    rw [h] at hk
    have HK := Lib.hid hk
    clear hk
    go_wp2
    go_ret
    exact ⟨ret_bool (by rw [← HK.out]), rfl⟩

/-- The three cells of a span. -/
structure SpanC (W : World) (b : Nat) (x : Od) (A : Option Addr) (m c : Nat) : Prop where
  c0 : W.cell? ⟨b, 0, none⟩ = some (.int .i64 x.fr)
  c1 : W.cell? ⟨b, 1, none⟩ = some (.int .i64 x.to_)
  c2 : W.cell? ⟨b, 2, none⟩ = some (.slice A m c)
theorem SpanC.new (w : World) (x : Od) (A : Option Addr) (m c : Nat) (t : TypeId) : SpanC (w.alloc (.cells #[.int .i64 x.fr, .int .i64 x.to_, .slice A m c] t)) w.heap.size x A m c := ⟨by simp, by simp, by simp⟩
theorem SpanC.below {W W' : World} {b : Nat} {x : Od} {A : Option Addr} {m c : Nat} (h : SpanC W b x A m c) (hb : Below W.heap.size W W') : SpanC W' b x A m c := ⟨cell_keep hb h.c0, cell_keep hb h.c1, cell_keep hb h.c2⟩

set_option maxHeartbeats 1000000 in
theorem spanBrings_any (x : Od) (A : Option Addr) (m c : Nat) (w : World) (hl : Strs w A m x.new) :
    Calls Tryz.prog 286 #[.agg #[.int .i64 x.fr, .int .i64 x.to_, .slice A m c]] w fun e w' => e = .returned (.bool (linesO x.new)) ∧ Below w.heap.size w w' := by
  have HS := Lib.hid (linesO_impl x.new)
  rw [hl.len] at HS
  obtain ⟨W, HW⟩ : ∃ W, Hid (W = w.alloc (.cells #[.int .i64 x.fr, .int .i64 x.to_, .slice A m c] 191)) := ⟨_, rfl⟩
  have HB := Lib.hid (show Below w.heap.size w W by rw [HW.out]; exact below_alloc w _)
  have HC := Lib.hid (show SpanC W w.heap.size x A m c by rw [HW.out]; exact SpanC.new w x A m c _)
  obtain ⟨k0, k1, k2⟩ := HC.out
  cases h1 : decide (m = 0)
  · cases h2 : (goodB x.new && wholeB x.new)
    · have hf := Lib.hid (show linesO x.new = false by rw [HS.out, h1, h2]; rfl)
      have H2 := Lib.hid h2
      have H1 := Lib.hid h1
      clear h1 h2
      go_enter Tryz.func286, Tryz.ntmps286
      go_wp2_with fail
      rw [← HW.out]
      refine (bringsNone_any x A m c _).mono ?_
      rintro e w1 ⟨rfl, b1⟩
      rw [H1.out]
      obtain ⟨k0, k1, k2⟩ := HC.out.below b1
      go_wp2_with fail
      refine (areWhole_any A m c x.new _ (hl.below (HB.out.next b1))).mono ?_
      rintro e w2 ⟨rfl, b2⟩
      rw [H2.out]
      go_wp2
      go_ret
      exact ⟨ret_bool hf.out.symm, (HB.out.next b1).next b2⟩
    · cases h3 : x.new.any (fun s => decide (s = dotA))
      all_goals
        have hf := Lib.hid (show linesO x.new = !x.new.any (fun s => decide (s = dotA)) by rw [HS.out, h1, h2]; rfl)
        rw [h3] at hf
        have H3 := Lib.hid h3
        have H2 := Lib.hid h2
        have H1 := Lib.hid h1
        clear h1 h2 h3
        go_enter Tryz.func286, Tryz.ntmps286
        go_wp2_with fail
        rw [← HW.out]
        refine (bringsNone_any x A m c _).mono ?_
        rintro e w1 ⟨rfl, b1⟩
        rw [H1.out]
        obtain ⟨k0, k1, k2⟩ := HC.out.below b1
        go_wp2_with fail
        refine (areWhole_any A m c x.new _ (hl.below (HB.out.next b1))).mono ?_
        rintro e w2 ⟨rfl, b2⟩
        rw [H2.out]
        obtain ⟨k0, k1, k2⟩ := (HC.out.below b1).below b2
        go_wp2_with fail
        refine (containsS_any A m c x.new _ _ (hl.below ((HB.out.next b1).next b2))).mono ?_
        rintro e w3 ⟨rfl, rfl⟩
        rw [show x.new.any (fun t => decide (t = (⟨#[46, 10]⟩ : ByteArray))) = x.new.any (fun s => decide (s = dotA)) from rfl, H3.out]
        go_wp2
        go_ret
        exact ⟨ret_bool hf.out.symm, (HB.out.next b1).next b2⟩
  · have hf := Lib.hid (show linesO x.new = false by rw [HS.out, h1]; rfl)
    have H1 := Lib.hid h1
    clear h1
    go_enter Tryz.func286, Tryz.ntmps286
    go_wp2_with fail
    rw [← HW.out]
    refine (bringsNone_any x A m c _).mono ?_
    rintro e w1 ⟨rfl, b1⟩
    rw [H1.out]
    go_wp2
    go_ret
    exact ⟨ret_bool hf.out.symm, HB.out.next b1⟩

end Go.Proofs.YtnnaigoomipklaaGreatDoor
