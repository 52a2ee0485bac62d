/-
  Words for memory: a slice of texts that reads as a list.
  The laws' own small functions on texts: counted, copied, compared, marked.
-/
import Derived.WalkKit
import Derived.ProofKit
import Derived.SliceStrings
import Derived.WalkSpells
import Derived.WalkLawsBesides
import Derived.Lib.Hide
import Derived.Deep.QuietTactic
import Derived.BigQuiet
import Derived.WalkSmall
import Derived.Laws.CopyOwn
import Derived.Maps.AppendAt
import Derived.Deep.AppendLies
import Derived.Test.YtnnaigoomipklaaDoorProg
import Derived.Test.YtnnaigoomipklaaDoorOjBase
import Derived.Deep.RegionWith
import Derived.Deep.RegionHeld3
set_option linter.unusedSimpArgs false
set_option linter.unusedVariables false
namespace Go.Proofs.YtnnaigoomipklaaDoor
open Go.RowKit Go.ChangeShapes Go.WideShapes

theorem ret_bool {a b : Bool} (h : a = b) : Ending.returned (.bool a) = .returned (.bool b) := by rw [h]
theorem ret_int {k : IntKind} {a b : Int} (h : a = b) : Ending.returned (.int k a) = .returned (.int k b) := by rw [h]
theorem ret_str {a b : ByteArray} (h : a = b) : Ending.returned (.string a) = .returned (.string b) := by rw [h]

theorem cell_lt {w : World} {p : Addr} {v : Value} (h : w.cell? p = some v) : p.block < w.heap.size := by
  rcases Nat.lt_or_ge p.block w.heap.size with hl | hg
  · exact hl
  · simp [World.cell?, Array.getElem?_eq_none hg] at h

theorem cell_keep {w w' : World} (hb : Below w.heap.size w w') {p : Addr} {v : Value} (h : w.cell? p = some v) : w'.cell? p = some v :=
  (hb.cell (cell_lt h)).trans h

theorem _root_.Go.RowKit.Below.next {a b c : World} (h : Below a.heap.size a b) (k : Below b.heap.size b c) : Below a.heap.size a c := h.trans (k.mono h.size)

/-- The world is as it was, but that the tape has been drawn from. -/
def Drawn (w w' : World) : Prop := ∃ m, w' = w.drewN m
theorem Drawn.refl (w : World) : Drawn w w := ⟨0, rfl⟩
theorem Drawn.more {w w' : World} (h : Drawn w w') (n : Nat) : Drawn w (w'.drewN n) := by
  obtain ⟨m, rfl⟩ := h
  exact ⟨m + n, World.drewN_drewN _ _ _⟩
theorem Drawn.below {w w' : World} (h : Drawn w w') : Below w.heap.size w w' := by
  obtain ⟨m, rfl⟩ := h
  exact below_drewN (Below.refl _ _) m

/-- The address and the length of a slice of texts, in a world, and the texts. -/
structure Strs (w : World) (a : Option Addr) (n : Nat) (l : List ByteArray) : Prop where
  len : l.length = n
  lim : n ≤ maxLen
  small : ∀ s ∈ l, s.size ≤ maxLen
  cell : ∀ k s, l[k]? = some s → ∃ b off, a = some ⟨b, off, none⟩ ∧ w.cell? ⟨b, off + k, none⟩ = some (.string s)

section
variable {w w' : World} {a : Option Addr} {n k : Nat} {l : List ByteArray}
theorem Strs.at_ (h : Strs w a n l) (hk : k < n) : ∃ b off s, a = some ⟨b, off, none⟩ ∧ l[k]? = some s ∧ s.size ≤ maxLen ∧ w.cell? ⟨b, off + k, none⟩ = some (.string s) := by
  have hl : k < l.length := by rw [h.len]; exact hk
  obtain ⟨b, off, e, hc⟩ := h.cell k _ (List.getElem?_eq_getElem hl)
  exact ⟨b, off, _, e, List.getElem?_eq_getElem hl, h.small _ (List.getElem_mem hl), hc⟩
theorem Strs.below (h : Strs w a n l) (hb : Below w.heap.size w w') : Strs w' a n l :=
  ⟨h.len, h.lim, h.small, fun k s hs => by
    obtain ⟨b, off, e, hc⟩ := h.cell k s hs
    exact ⟨b, off, e, cell_keep hb hc⟩⟩
theorem Strs.nil_ : Strs w a 0 [] := ⟨rfl, Nat.zero_le _, fun s h => by simp at h, fun k s h => by simp at h⟩
end

/-- A block of the call's own that holds just these texts. -/
structure Own (w : World) (g : Nat) (l : List ByteArray) : Prop where
  heap : w.heap[g]? = some (.cells (l.map Value.string).toArray 9 (0, 0))

section
variable {w w' : World} {g k : Nat} {l : List ByteArray} {s : ByteArray}
theorem Own.cell (h : Own w g l) (hs : l[k]? = some s) : w.cell? ⟨g, k, none⟩ = some (.string s) := by
  simp [World.cell?, h.heap, hs]
theorem Own.frozen (h : Own w g l) : w.frozen? ⟨g, k, none⟩ = false := by
  simp [World.frozen?, h.heap]
theorem Own.set_ (h : Own w g l) (k : Nat) (s : ByteArray) : Own (w.setCell ⟨g, k, none⟩ (.string s)) g (l.set k s) := by
  refine ⟨?_⟩
  have h0 := h.heap
  simp [World.setCell, Array.getElem?_modify, h0, List.map_set]
theorem Own.new (w : World) (l : List ByteArray) : Own (w.alloc (.cells (l.map Value.string).toArray 9)) w.heap.size l := ⟨heap_alloc_new w _⟩
end

/-- A value that is a slice of the call's own, made from block 'base' on, of just these texts. -/
structure OwnV (w : World) (base : Nat) (v : Value) (l : List ByteArray) : Prop where
  row : w.ownsRow base 9 1 v l.length (l.map Value.string)
  small : ∀ s ∈ l, s.size ≤ maxLen

theorem grown_of_below {a w : World} (h : Below a.heap.size a w) (row : Option Nat) : a.grownBy w row := ⟨h.os, h.tape, h.output, h.size, fun i hi _ => h.block i hi⟩

section
variable {w w' : World} {base n cap g k : Nat} {v : Value} {A : Option Addr} {l : List ByteArray} {s : ByteArray}
theorem OwnV.form (h : OwnV w base v l) (hn : l.length = n) : ∃ A cap, v = .slice A n cap ∧ n ≤ cap ∧ cap ≤ maxLen := by
  subst hn
  rcases h.row.2 with ⟨hv, h0⟩ | ⟨g, cap, cur, hv, _, _, h1, h2, _⟩
  · exact ⟨none, 0, by rw [hv, h0], by omega, by omega⟩
  · exact ⟨_, cap, hv, h1, h2⟩
theorem OwnV.strs (h : OwnV w base (.slice A n cap) l) : Strs w A n l := by
  rcases h.row.2 with ⟨hv, h0⟩ | ⟨g, cap', cur, hv, _, hg, h1, h2, h3, h4⟩
  · injection hv with e1 e2 e3
    subst e2
    have : l = [] := List.eq_nil_of_length_eq_zero h0
    subst this
    exact Strs.nil_
  · injection hv with e1 e2 e3
    subst e1 e2
    refine ⟨rfl, by omega, h.small, fun k s hs => ⟨g, 0, rfl, ?_⟩⟩
    have h5 := h.row.cells (g := g) rfl k (.string s) (by simp [hs])
    have e : (⟨g, 0, none⟩ : Addr).add k = ⟨g, 0 + k, none⟩ := by
      unfold Addr.add
      by_cases hk : k = 0 <;> simp [hk]
    rw [e] at h5
    exact h5
theorem OwnV.kept {row : Option Nat} (h : OwnV w base v l) (hg : w.grownBy w' row) (hne : ∀ g, row = some g → v.ownBlock ≠ some g) : OwnV w' base v l := by
  refine ⟨h.row.kept hg ?_, h.small⟩
  cases row with
  | none =>
    cases hv : v.ownBlock with
    | none => exact .inl rfl
    | some g => exact .inr (by simp)
  | some g => exact .inr (hne g rfl)
theorem OwnV.below (h : OwnV w base v l) (hb : Below w.heap.size w w') : OwnV w' base v l := h.kept (grown_of_below hb none) (fun g e => by cases e)
theorem OwnV.lt (h : OwnV w base v l) (e : v.ownBlock = some g) : base ≤ g ∧ g < w.heap.size := h.row.lt g e
theorem OwnV.more (h : OwnV w base v l) {b2 : Nat} (hb : b2 ≤ base) : OwnV w b2 v l := by
  refine ⟨⟨h.row.1, ?_⟩, h.small⟩
  rcases h.row.2 with h1 | ⟨g, cap, cur, h1, h2, h3⟩
  · exact .inl h1
  · exact .inr ⟨g, cap, cur, h1, by omega, h3⟩
theorem Own.ownV (h : Own w g l) (hb : base ≤ g) (hm : l.length ≤ maxLen) (hs : ∀ s ∈ l, s.size ≤ maxLen) : OwnV w base (.slice (some ⟨g, 0, none⟩) l.length l.length) l :=
  ⟨⟨by simp, .inr ⟨g, l.length, _, rfl, hb, h.heap, Nat.le_refl _, hm, by simp, by rw [Nat.mul_one]; exact List.take_of_length_le (by simp)⟩⟩, hs⟩
end

theorem below_alloc (w : World) (o : Obj) : Below w.heap.size w (w.alloc o) := (Below.refl _ _).alloc (Nat.le_refl _) o

/-- The cells of a new slice of n texts. -/
def blanks (n : Nat) : Array Value := ((List.replicate n ByteArray.empty).map Value.string).toArray
theorem run_make_strs {P : Program} (t e : TypeId) (i : TypeInfo) (ht : P.underlying t = some (.slice e)) (hi : P.info? e = some i) (hz : i.zero = some (.string ByteArray.empty)) (hs : i.size = 1) (hb : i.bytes = 16)
    (n : Nat) (hn : n ≤ 1099511627776) (w : World) :
    (Instr.makeSlice t (.int .i64 (n : Int)) (.int .i64 (n : Int))).run P w = .ok (.slice (some ⟨w.heap.size, 0, none⟩) n n) (w.alloc (.cells (blanks n) e)) := by
  have hr := run_make (P := P) w t e i _ ht hi hz .i64 .i64 n n (by omega) (by omega) (by rw [hb]; omega) (by omega)
  have e1 : madeCells (Value.string ByteArray.empty).cells ((n : Int).toNat * i.size) = blanks n := by
    apply Array.ext'
    rw [hs, Nat.mul_one, Int.toNat_natCast]
    show (madeCells #[Value.string ByteArray.empty] n).toList = _
    rw [toList_madeCells_one]
    simp [blanks]
  rw [e1] at hr
  simpa using hr

theorem int_range {x : Int} (h : (Lit.int .i64 x).wf = true) : -9223372036854775808 ≤ x ∧ x ≤ 9223372036854775807 := by
  simpa [Lit.wf, IntKind.min, IntKind.max, IntKind.signed, IntKind.bits] using h

def i64ok (x : Int) : Prop := -9223372036854775808 ≤ x ∧ x ≤ 9223372036854775807

/-- All but the blocks of S is as it was; new blocks may have come. -/
structure Wrote (S : Nat → Prop) (w w' : World) : Prop where
  os : w'.os = w.os
  tape : w'.tape = w.tape
  output : w'.output = w.output
  size : w.heap.size ≤ w'.heap.size
  block : ∀ k, k < w.heap.size → ¬ S k → w'.heap[k]? = w.heap[k]?

section
variable {S S' : Nat → Prop} {w w' w2 : World} {base n cap g k : Nat} {v u : Value} {A : Option Addr} {l : List ByteArray}
theorem Wrote.of_below (h : Below w.heap.size w w') : Wrote S w w' := ⟨h.os, h.tape, h.output, h.size, fun i hi _ => h.block i hi⟩
theorem Wrote.set (S : Nat → Prop) (w : World) (a : Addr) (u : Value) (hs : S a.block) : Wrote S w (w.setCell a u) :=
  ⟨rfl, rfl, rfl, by simp [World.setCell], fun i _ hn => Below.heap_setCell _ _ _ _ (fun e => hn (e ▸ hs))⟩
theorem ownsRow_wrote {e : TypeId} {size : Nat} {xs : List Value} (h : w.ownsRow base e size v n xs) (hw : Wrote S w w') (hne : ∀ g, v.ownBlock = some g → ¬ S g) : w'.ownsRow base e size v n xs := by
  refine ⟨h.1, ?_⟩
  rcases h.2 with hn | ⟨g, cap, cur, rfl, hb, hgg, rest⟩
  · exact .inl hn
  · refine .inr ⟨g, cap, cur, rfl, hb, ?_, rest⟩
    rw [hw.block g (Array.getElem?_eq_some_iff.1 hgg).1 (hne g rfl)]
    exact hgg
theorem OwnV.wrote (h : OwnV w base v l) (hw : Wrote S w w') (hne : ∀ g, v.ownBlock = some g → ¬ S g) : OwnV w' base v l := ⟨ownsRow_wrote h.row hw hne, h.small⟩
end

end Go.Proofs.YtnnaigoomipklaaDoor

namespace Go.Proofs.YtnnaigoomipklaaDoor
open Go.RowKit M

theorem str_info : (Tryd.prog.info? 9).map (fun i => (i.zero, i.size, i.bytes)) = some (some (.string ByteArray.empty), 1, 16) := by kernel_rfl
theorem info_parts {P : Program} {t : TypeId} {z : Value} {s b : Nat} (h : (P.info? t).map (fun i => (i.zero, i.size, i.bytes)) = some (some z, s, b)) : ∃ i, P.info? t = some i ∧ i.zero = some z ∧ i.size = s ∧ i.bytes = b := by
  cases hi : P.info? t with
  | none => rw [hi] at h; cases h
  | some i => rw [hi] at h; simp at h; exact ⟨i, rfl, h.1, h.2.1, h.2.2⟩
theorem make_strs (n : Nat) (hn : n ≤ 1048576) (w : World) :
    (Instr.makeSlice 30 (.int .i64 (n : Int)) (.int .i64 (n : Int))).run Tryd.prog w = .ok (.slice (some ⟨w.heap.size, 0, none⟩) n n) (w.alloc (.cells (blanks n) 9)) := by
  obtain ⟨i, h1, h2, h3, h4⟩ := info_parts str_info
  exact run_make_strs 30 9 i Tryd.underlying30 h1 h2 h3 h4 n (by omega) w

set_option maxHeartbeats 400000 in
theorem szStringS_any (a : Option Addr) (n c : Nat) (l : List ByteArray) (left : Int) (w : World) (hl : Strs w a n l) (h0 : 0 ≤ left) (h1 : left ≤ 1048576) :
    Calls Tryd.prog 12 #[.slice a n c, .int .i64 left] w fun e w' => e = .returned (.int .i64 (szS l left)) ∧ w = w' := by
  have hlim := hl.lim
  unfold maxLen at hlim
  have HL := Lib.hid hl.len
  by_cases hn : left < n
  · have hf := Lib.hid (show szS l left = -1 from if_pos (by rw [HL.out]; omega))
    go_enter Tryd.func12, Tryd.ntmps12
    go_wp2
    go_ret
    exact ⟨ret_int hf.out.symm, rfl⟩
  · go_enter Tryd.func12, Tryd.ntmps12
    go_wp2
    go_loop [1, 5] (fun q i => ∃ k : Nat, ∃ r : Int, i = .int .i64 k ∧ q = .int .i64 r ∧ k ≤ n ∧ 0 ≤ r ∧ r ≤ 1048576 ∧ Hid (r + n + total (l.take k) = left)) (fun _ i => n - (intOf i).toNat)
    case atStart => exact ⟨0, left - n, rfl, rfl, by omega, by omega, by omega, show left - n + n + ((total (l.take 0) : Nat) : Int) = left by simp [total]⟩
    case round =>
      obtain ⟨k, r, rfl, rfl, hk, hr0, hr1, H⟩ := hrel
      by_cases hlt : k < n
      · obtain ⟨b, off, s, rfl, hs, hsz, hc⟩ := hl.at_ hlt
        have HS := Lib.hid hs
        clear hs
        unfold maxLen at hsz
        by_cases hq : r < s.size
        · have hf := Lib.hid (show szS l left = -1 from if_pos (by
            have h1 := total_take_succ HS.out; have h2 := total_take_le l (k + 1); have h3 := H.out; rw [HL.out]; omega))
          go_wp2
          go_ret
          exact ⟨ret_int hf.out.symm, rfl⟩
        · have h1 := Lib.hid (total_take_succ HS.out)
          go_wp2
          go_round
          case rel => exact ⟨k + 1, r - s.size, by go_num, rfl, by omega, by omega, by omega, show _ = _ by have h1 := h1.out; have h3 := H.out; omega⟩
          case measure => simp [intOf]; omega
      · have hf := Lib.hid (show szS l left = r by
          have h3 := H.out
          have h4 : l.take k = l := List.take_of_length_le (by rw [HL.out]; omega)
          rw [h4] at h3
          unfold szS
          rw [if_neg (by rw [HL.out]; omega), HL.out]
          omega)
        go_wp2
        go_ret
        exact ⟨ret_int hf.out.symm, rfl⟩

set_option maxHeartbeats 400000 in
theorem toStringS_any (a : Option Addr) (n c : Nat) (l : List ByteArray) (w : World) (hl : Strs w a n l) (hn : n ≤ 1048576) :
    Calls Tryd.prog 15 #[.slice a n c] w fun e w' => e = .returned (.slice (some ⟨w.heap.size, 0, none⟩) n n) ∧ OwnV w' w.heap.size (.slice (some ⟨w.heap.size, 0, none⟩) n n) l ∧ Below w.heap.size w w' := by
  have HL := Lib.hid hl.len
  have hsm := Lib.hid hl.small
  have hmk := make_strs n hn
  go_enter Tryd.func15, Tryd.ntmps15
  go_wp2
  go_loopw [4] (fun i w' => ∃ k : Nat, i = .int .i64 k ∧ k ≤ n ∧ Own w' w.heap.size (fill l k) ∧ Below w.heap.size w w') (fun i _ => n - (intOf i).toNat)
  case atStart =>
    refine ⟨0, rfl, by omega, ?_, (Below.refl _ _).alloc (Nat.le_refl _) _⟩
    rw [fill_zero, HL.out]
    exact Own.new w _
  case round =>
    obtain ⟨k, rfl, hk, ho, hb⟩ := hrel
    by_cases hlt : k < n
    · obtain ⟨b, off, s, rfl, hs, hsz, hc⟩ := (hl.below hb).at_ hlt
      have hfz := ho.frozen (k := k)
      obtain ⟨t, ht⟩ : ∃ t, (fill l k)[k]? = some t := ⟨_, List.getElem?_eq_getElem (by rw [fill_len l (by rw [HL.out]; omega), HL.out]; exact hlt)⟩
      have hcg := ho.cell ht
      have HS := Lib.hid hs
      clear hs ht
      go_wp2
      go_roundw
      case rel => exact ⟨k + 1, by go_num, by omega, by rw [← fill_set HS.out]; exact ho.set_ _ _, hb.setCell (Nat.le_refl _) _⟩
      case measure => simp [intOf]; omega
    · have hf := Lib.hid (fill_all l (k := k) (by rw [HL.out]; omega))
      go_wp2
      go_ret
      refine ⟨rfl, ?_, hb⟩
      rw [hf.out] at ho
      have h1 := ho.ownV (Nat.le_refl _) (by rw [HL.out]; unfold maxLen; omega) hsm.out
      rwa [HL.out] at h1

theorem eq_step {l r : List ByteArray} {k : Nat} {s t : ByteArray} (H : ∀ j s t, j < k → l[j]? = some s → r[j]? = some t → s = t) (hs : l[k]? = some s) (ht : r[k]? = some t) (h : s = t) :
    ∀ j s t, j < k + 1 → l[j]? = some s → r[j]? = some t → s = t := by
  intro j s' t' hj hs' ht'
  by_cases e : j = k
  · subst e; rw [hs] at hs'; rw [ht] at ht'; injection hs' with hs'; injection ht' with ht'; rw [← hs', ← ht', h]
  · exact H j s' t' (by omega) hs' ht'

set_option maxHeartbeats 400000 in
theorem eqStringS_any (a b : Option Addr) (n m c d : Nat) (l r : List ByteArray) (w : World) (hl : Strs w a n l) (hr : Strs w b m r) :
    Calls Tryd.prog 18 #[.slice a n c, .slice b m d] w fun e w' => e = .returned (.bool (eqT l r)) ∧ Drawn w w' := by
  have HL := Lib.hid hl.len
  have HR := Lib.hid hr.len
  have hlim := hl.lim
  unfold maxLen at hlim
  by_cases hnm : n = m
  · subst hnm
    have hq : ((n : Int) != (n : Int)) = false := by simp
    go_enter Tryd.func18, Tryd.ntmps18
    go_wp2
    go_loopw [5] (fun i w' => ∃ k : Nat, i = .int .i64 k ∧ k ≤ n ∧ Hid (∀ j s t, j < k → l[j]? = some s → r[j]? = some t → s = t) ∧ Drawn w w') (fun i _ => n - (intOf i).toNat)
    case atStart => exact ⟨0, rfl, by omega, fun j s t h => by omega, Drawn.refl _⟩
    case round =>
      obtain ⟨k, rfl, hk, H, hb⟩ := hrel
      by_cases hlt : k < n
      · obtain ⟨b1, off1, s, rfl, hs, hsz, hc1⟩ := (hl.below hb.below).at_ hlt
        obtain ⟨b2, off2, t, rfl, ht, htz, hc2⟩ := (hr.below hb.below).at_ hlt
        have HS := Lib.hid hs
        have HT := Lib.hid ht
        clear hs ht
        have hi0 : (0 : Int) ≤ (k : Int) := by omega
        have hi1 : (k : Int) < (n : Int) := by omega
        by_cases hst : s = t
        · have hb2 : (s.toList == t.toList) = true := by rw [hst]; simp
          have HST := Lib.hid hst
          clear hst
          go_wp2
          go_quiet (fail)
          go_wp2
          go_roundw
          case rel => exact ⟨k + 1, by go_num, by omega, eq_step H.out HS.out HT.out HST.out, hb.more _⟩
          case measure => simp [intOf]; omega
        · have hb2 := beq_other hst
          have hf := Lib.hid (eqT_at HS.out HT.out hst)
          clear hst
          go_wp2
          go_quiet (fail)
          go_wp2
          go_ret
          exact ⟨ret_bool hf.out.symm, hb.more _⟩
      · have hf := Lib.hid (eqT_all (fun j s t h1 h2 => H.out j s t (by have := (List.getElem?_eq_some_iff.1 h1).1; have := HL.out; omega) h1 h2) (HL.out.trans HR.out.symm))
        go_wp2
        go_ret
        exact ⟨ret_bool hf.out.symm, hb⟩
  · have hq : ((n : Int) != (m : Int)) = true := by simp; omega
    have hf := Lib.hid (eqT_len (l := l) (r := r) (by rw [HL.out, HR.out]; exact hnm))
    go_enter Tryd.func18, Tryd.ntmps18
    go_wp2
    go_ret
    exact ⟨ret_bool hf.out.symm, Drawn.refl _⟩

theorem sz_neg (a : Option Addr) (n c : Nat) (l : List ByteArray) (left : Int) (w : World) (hl : Strs w a n l) (h0 : 0 ≤ left) (h1 : left ≤ 1048576) (h : left < l.length + total l) :
    Calls Tryd.prog 12 #[.slice a n c, .int .i64 left] w fun e w' => e = .returned (.int .i64 (-1)) ∧ w = w' := by
  have e : szS l left = -1 := if_pos h
  rw [← e]
  exact szStringS_any a n c l left w hl h0 h1

theorem conv_one (x : Int) (w : World) : (convert 56 9 (.slice (some ⟨w.heap.size, 0, none⟩) 1 1)).run Tryd.prog (w.alloc (.cells #[.int .u8 x] 5)) = .ok (.string ⟨#[UInt8.ofNat x.toNat]⟩) (w.alloc (.cells #[.int .u8 x] 5)) := by
  rw [run_convert_bytes_string _ _ _ 5 _ _ _ Tryd.underlying56 Tryd.underlying5 Tryd.underlying9]
  have h := run_loadCells_list (P := Tryd.prog) (w := w.alloc (.cells #[.int .u8 x] 5)) ⟨w.heap.size, 0, none⟩ [.int .u8 x] (cell_one_new w (.int .u8 x) 5)
  exact run_bytesToString _ _ 1 1 [x] (by simpa using h)

end Go.Proofs.YtnnaigoomipklaaDoor
