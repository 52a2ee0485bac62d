/-
  The editor, the program's: lines of the call's own behind a pointer; one order done.
-/
import Derived.Test.YtnnaigoomipklaaOcOReplace
import Derived.Test.YtnnaigoomipklaaOcOGoodK
import Derived.Test.YtnnaigoomipklaaOcORun
set_option linter.unusedSimpArgs false
set_option linter.unusedVariables false
namespace Go.Proofs.Ytnnaigoomipklaa
open Go.RowKit Go.ChangeShapes Go.WideShapes M

/-- An editor behind a pointer holds these lines. -/
structure Ed (w : World) (base eb : Nat) (u : Value) (L : List ByteArray) : Prop where
  low : base ≤ eb
  box : w.heap[eb]? = some (.cells #[u] 77 (0, 0))
  own : OwnV w base u L
  apart : u.ownBlock ≠ some eb

section
variable {w w' : World} {base eb : Nat} {u : Value} {L : List ByteArray}
theorem Ed.lt (h : Ed w base eb u L) : eb < w.heap.size := (Array.getElem?_eq_some_iff.1 h.box).1
theorem Ed.cell (h : Ed w base eb u L) : w.cell? ⟨eb, 0, none⟩ = some u := by
  have := h.box
  simp [World.cell?, this]
theorem Ed.free (h : Ed w base eb u L) : w.frozen? ⟨eb, 0, none⟩ = false := by
  have := h.box
  simp [World.frozen?, this]
theorem Ed.below (h : Ed w base eb u L) (hb : Below w.heap.size w w') : Ed w' base eb u L := ⟨h.low, (hb.block eb h.lt).trans h.box, h.own.below hb, h.apart⟩
theorem Ed.wrote {S : Nat → Prop} (h : Ed w base eb u L) (hw : Wrote S w w') (h1 : ¬ S eb) (h2 : ∀ g, u.ownBlock = some g → ¬ S g) : Ed w' base eb u L := ⟨h.low, (hw.block eb h.lt h1).trans h.box, h.own.wrote hw h2, h.apart⟩
theorem Ed.wide (h : Ed w base eb u L) : base ≤ w.heap.size := Nat.le_trans h.low (Nat.le_of_lt h.lt)
end

/-- What an order does to the editor: its own block, and the lines' own; the lines may come to lie in a new block. -/
structure Moved (w w' : World) (base eb : Nat) (u u' : Value) (L : List ByteArray) : Prop where
  ed : Ed w' base eb u' L
  wrote : Wrote (fun k => k = eb ∨ u.ownBlock = some k) w w'
  place : ∀ k, u'.ownBlock = some k → u.ownBlock = some k ∨ w.heap.size ≤ k
theorem Moved.same {w w' : World} {base eb : Nat} {u : Value} {L : List ByteArray} (h : Ed w base eb u L) (hb : Below w.heap.size w w') : Moved w w' base eb u u L := ⟨h.below hb, Wrote.of_below hb, fun k e => .inl e⟩
theorem Moved.after {w w1 w2 : World} {base eb : Nat} {u u' : Value} {L : List ByteArray} (hb : Below w.heap.size w w1) (h : Moved w1 w2 base eb u u' L) : Moved w w2 base eb u u' L :=
  ⟨h.ed, (Wrote.of_below hb).trans h.wrote (fun _ _ e => e), fun k e => (h.place k e).imp id (fun h2 => Nat.le_trans hb.size h2)⟩
theorem Moved.below {w w' : World} {base eb : Nat} {u u' : Value} {L L0 : List ByteArray} (h : Moved w w' base eb u u' L) (h0 : Ed w base eb u L0) : Below base w w' :=
  Wrote.below (Below.refl base w) h.wrote h0.wide (fun k e => e.elim (fun e => e ▸ h0.low) (fun e => (h0.own.lt e).1))

theorem box_set {w : World} {eb : Nat} {u v : Value} {t : TypeId} (h : w.heap[eb]? = some (.cells #[u] t (0, 0))) : (w.setCell ⟨eb, 0, none⟩ v).heap[eb]? = some (.cells #[v] t (0, 0)) := by
  simp [World.setCell, Array.getElem?_modify, h]

set_option maxHeartbeats 1000000 in
/-- Lines are put in place of others. -/
theorem ereplace_any (base eb : Nat) (u : Value) (L : List ByteArray) (i j : Nat) (B : Option Addr) (m c : Nat) (r : List ByteArray) (w : World) (h : Ed w base eb u L) (hr : Strs w B m r) (hmc : m ≤ c) (hpl : PlainAt w B) (hlow : ∀ b, B = some b → b.block < base)
    (hij : i ≤ j) (hjn : j ≤ L.length) (hn : L.length ≤ 1048576) (hm : m ≤ 1048576) :
    Calls Try.prog 78 #[.pointer (some ⟨eb, 0, none⟩), .int .i64 (i : Int), .int .i64 (j : Int), .slice B m c] w fun e w' => e = .returned (.tuple #[]) ∧ ∃ u', Moved w w' base eb u u' (L.take i ++ (r ++ L.drop j)) := by
  have H := Lib.hid h
  have hc := h.cell
  obtain ⟨n, HN⟩ : ∃ n, Hid (L.length = n) := ⟨_, rfl⟩
  have ho := h.own
  obtain ⟨A, cap, rfl, hnc, hcm⟩ := ho.form HN.out
  rw [HN.out] at hjn hn
  have HO := Lib.hid ho
  clear h ho
  go_enter Try.func78, Try.ntmps78
  go_wp2_with fail
  refine (replaceS_any base A n cap L B m c r i j w HO.out hr hmc hpl (fun a b ha hb e => by
    subst ha
    have h1 := (HO.out.lt (g := a.block) rfl).1
    have h2 := hlow b hb
    omega) hij hjn hn hm H.out.wide).mono ?_
  rintro e w1 ⟨v1, rfl, p1⟩
  have hb1 : w1.heap[eb]? = some (.cells #[.slice A n cap] 77 (0, 0)) := (p1.wrote.block eb H.out.lt (fun e => H.out.apart e)).trans H.out.box
  have hcc : w1.cell? ⟨eb, 0, none⟩ = some (.slice A n cap) := by simp [World.cell?, hb1]
  have hff : w1.frozen? ⟨eb, 0, none⟩ = false := by simp [World.frozen?, hb1]
  have hap : v1.ownBlock ≠ some eb := fun e => by
    rcases p1.place eb e with h | h
    · exact H.out.apart h
    · have := H.out.lt; omega
  have P1 := Lib.hid p1
  have HB1 := Lib.hid hb1
  have HAP := Lib.hid hap
  clear p1 hb1 hap
  obtain ⟨q, HQ⟩ : ∃ q, Hid ((L.take i ++ (r ++ L.drop j)).length = q) := ⟨_, rfl⟩
  obtain ⟨A1, c1, rfl, _, _⟩ := P1.out.own.form HQ.out
  go_wp2
  go_end0
  refine ⟨rfl, _, ⟨H.out.low, box_set HB1.out, P1.out.own.wrote (Wrote.set (fun k => k = eb) _ _ _ rfl) (fun g e e2 => HAP.out (by rw [e, e2])), HAP.out⟩, ?_, P1.out.place⟩
  exact (P1.out.wrote.mono (fun k _ e => .inr e)).trans (Wrote.set (fun k => k = eb) _ _ _ rfl) (fun k _ e => .inl e)

theorem dotBytes_ (s : ByteArray) (h1 : 1 ≤ s.size) : ((s.extract 0 1).toList == [46]) = decide (s.data.toList.head? = some 46) := by
  rw [ByteArray.toList_eq, ByteArray.data_extract, Array.toList_extract]
  have hl : 1 ≤ s.data.toList.length := by rw [Array.length_toList]; exact h1
  cases e : s.data.toList with
  | nil => rw [e] at hl; simp at hl
  | cons c r => rw [Bool.eq_iff_iff]; simp
theorem two_bytes (s : ByteArray) : (s.toList == [46, 10]) = decide (s = dotA) := by
  rw [ByteArray.toList_eq, Bool.eq_iff_iff, beq_iff_eq, decide_eq_true_iff]
  constructor
  · intro h
    apply ByteArray.ext
    apply Array.ext'
    rw [h]
    rfl
  · rintro rfl
    rfl
/-- A text without its first dot. -/
def undot (s : ByteArray) : ByteArray := if s.data.toList.head? = some 46 then s.extract 1 s.size else s

set_option maxHeartbeats 400000 in
theorem dotCut_any (s : ByteArray) (w : World) (hs : s.size ≤ 1048576) (h1 : 1 ≤ s.size) :
    Calls Try.prog 88 #[.string s, .string ⟨#[46]⟩] w fun e w' => e = .returned (.tuple #[.string (undot s), .bool (decide (s.data.toList.head? = some 46))]) ∧ w' = w := by
  have hd := dotBytes_ s h1
  have hP : ∀ w, Calls Try.prog 105 #[.string s, .string ⟨#[46]⟩] w fun e w' => e = .returned (.bool (decide (s.data.toList.head? = some 46))) ∧ w' = w := by
    intro w
    cases hq : decide (s.data.toList.head? = some 46)
    all_goals
      rw [hq] at hd
      have HQ := Lib.hid hq
      clear hq
      go_enter Try.func105, Try.ntmps105
      go_wp2
      go_ret
      exact ⟨rfl, rfl⟩
  have HP := Lib.hid hP
  clear hP hd
  cases hq : decide (s.data.toList.head? = some 46)
  · have hi := Lib.hid (show undot s = s from if_neg (of_decide_eq_false hq))
    have HQ := Lib.hid hq
    clear hq
    have h0 : ∀ w, Calls Try.prog 100 #[.string s, .string ⟨#[46]⟩] w fun e w' => e = .returned (.tuple #[.string s, .bool false]) ∧ w' = w := by
      intro w
      go_enter Try.func100, Try.ntmps100
      go_wp2_with fail
      refine (HP.out _).mono ?_
      rintro e w1 ⟨rfl, rfl⟩
      rw [HQ.out]
      go_wp2
      go_ret2
      exact ⟨rfl, rfl⟩
    have H0 := Lib.hid h0
    clear h0
    go_enter Try.func88, Try.ntmps88
    go_wp2_with fail
    refine (H0.out _).mono ?_
    rintro e w1 ⟨rfl, rfl⟩
    go_wp2
    go_ret2
    exact ⟨by rw [hi.out]; rfl, rfl⟩
  · have hi := Lib.hid (show undot s = s.extract 1 s.size from if_pos (of_decide_eq_true hq))
    have HQ := Lib.hid hq
    clear hq
    have h0 : ∀ w, Calls Try.prog 100 #[.string s, .string ⟨#[46]⟩] w fun e w' => e = .returned (.tuple #[.string (s.extract 1 s.size), .bool true]) ∧ w' = w := by
      intro w
      go_enter Try.func100, Try.ntmps100
      go_wp2_with fail
      refine (HP.out _).mono ?_
      rintro e w1 ⟨rfl, rfl⟩
      rw [HQ.out]
      go_wp2
      go_ret2
      exact ⟨rfl, rfl⟩
    have H0 := Lib.hid h0
    clear h0
    go_enter Try.func88, Try.ntmps88
    go_wp2_with fail
    refine (H0.out _).mono ?_
    rintro e w1 ⟨rfl, rfl⟩
    go_wp2
    go_ret2
    exact ⟨by rw [hi.out]; rfl, rfl⟩

theorem fixS_yes {s : ByteArray} (h1 : s.data.toList.head? = some 46) (h2 : s ≠ dotA) : fixS s = some (undot s) := by
  unfold fixS undot
  rw [if_pos ⟨h1, h2⟩, if_pos h1]
theorem fixS_no {s : ByteArray} (h : ¬ (s.data.toList.head? = some 46 ∧ s ≠ dotA)) : fixS s = none := if_neg h
theorem undot_le (s : ByteArray) : (undot s).size ≤ s.size := by
  unfold undot
  split <;> simp

set_option maxHeartbeats 1000000 in
/-- A line loses its first dot. -/
theorem efix_any (base eb : Nat) (u : Value) (L : List ByteArray) (k : Nat) (s : ByteArray) (w : World) (h : Ed w base eb u L) (hs : L[k]? = some s) (h1 : 1 ≤ s.size) (h2 : s.size ≤ 1048576) (hn : L.length ≤ 1048576) :
    Calls Try.prog 79 #[.pointer (some ⟨eb, 0, none⟩), .int .i64 (k : Int)] w fun e w' => (fixS s = none ∧ e = .returned (.int .i64 2) ∧ w' = w) ∨ (∃ t, fixS s = some t ∧ e = .returned (.int .i64 0) ∧ Moved w w' base eb u u (L.set k t)) := by
  have H := Lib.hid h
  have hc := h.cell
  obtain ⟨n, HN⟩ : ∃ n, Hid (L.length = n) := ⟨_, rfl⟩
  have ho := h.own
  obtain ⟨A, cap, rfl, hnc, hcm⟩ := ho.form HN.out
  rw [HN.out] at hn
  have hk : k < n := by rw [← HN.out]; exact (List.getElem?_eq_some_iff.1 hs).1
  obtain ⟨g, rfl, hgb, hgl, _, hgf, hset⟩ := ho.at_ hk
  have hcg : w.cell? ⟨g, k, none⟩ = some (.string s) := by
    obtain ⟨b, off, t, e, ht, _, hc2⟩ := ho.strs.at_ hk
    injection e with e
    injection e with e1 e2
    subst e1 e2
    rw [hs] at ht
    injection ht with ht
    subst ht
    rw [Nat.zero_add] at hc2
    exact hc2
  have HSET := Lib.hid hset
  have HS := Lib.hid hs
  have hi0 : (0 : Int) ≤ (k : Int) := by omega
  have hi1 : (k : Int) < (n : Int) := by omega
  have hbd : decide (s.data.toList.head? = some 46) = true ∨ decide (s.data.toList.head? = some 46) = false := by cases decide (s.data.toList.head? = some 46) <;> simp
  have hgne : g ≠ eb := fun e => h.apart (by rw [e]; rfl)
  clear h ho hset hs
  rcases hbd with hb | hb
  · have HH := Lib.hid (of_decide_eq_true hb)
    cases ht : decide (s = dotA)
    · have hq := two_bytes s
      rw [ht] at hq
      have HF := Lib.hid (fixS_yes HH.out (of_decide_eq_false ht))
      have HB := Lib.hid hb
      clear hb ht
      have hz := Lib.hid (Nat.le_trans (undot_le s) h2)
      go_enter Try.func79, Try.ntmps79
      go_wp2_with fail
      refine (dotCut_any s _ h2 h1).mono ?_
      rintro e w1 ⟨rfl, hw⟩
      subst hw
      rw [HB.out]
      go_wp2
      go_ret
      obtain ⟨o1, g1⟩ := HSET.out (undot s) (by unfold maxLen; have := hz.out; omega)
      refine .inr ⟨_, HF.out, rfl, ⟨H.out.low, ?_, o1, H.out.apart⟩, (Wrote.set (fun k => k = g) w1 ⟨g, k, none⟩ (.string (undot s)) rfl).mono (fun k _ e => .inr (by rw [e]; rfl)), fun k e => .inl e⟩
      exact ((Wrote.set (fun k => k = g) w1 ⟨g, k, none⟩ (.string (undot s)) rfl).block eb H.out.lt (fun e => hgne e.symm)).trans H.out.box
    · have hq := two_bytes s
      rw [ht] at hq
      have HF := Lib.hid (fixS_no (s := s) (fun e => e.2 (of_decide_eq_true ht)))
      have HB := Lib.hid hb
      clear hb ht
      go_enter Try.func79, Try.ntmps79
      go_wp2_with fail
      refine (dotCut_any s _ h2 h1).mono ?_
      rintro e w1 ⟨rfl, hw⟩
      subst hw
      rw [HB.out]
      go_wp2
      go_ret
      exact .inl ⟨HF.out, rfl, rfl⟩
  · have HF := Lib.hid (fixS_no (s := s) (fun e => (of_decide_eq_false hb) e.1))
    have HB := Lib.hid hb
    clear hb
    go_enter Try.func79, Try.ntmps79
    go_wp2_with fail
    refine (dotCut_any s _ h2 h1).mono ?_
    rintro e w1 ⟨rfl, hw⟩
    subst hw
    rw [HB.out]
    go_wp2
    go_ret
    exact .inl ⟨HF.out, rfl, rfl⟩

end Go.Proofs.Ytnnaigoomipklaa
