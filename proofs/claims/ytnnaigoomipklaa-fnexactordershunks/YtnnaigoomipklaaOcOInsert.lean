/-
  slices.Insert at texts: into a slice of the call's own, of texts that lie in another block.
-/
import Derived.Test.YtnnaigoomipklaaOcOSplice
import Derived.Test.YtnnaigoomipklaaOcPart
import Derived.Test.YtnnaigoomipklaaOcURows
import Derived.Deep.RegionLaw
set_option linter.unusedSimpArgs false
set_option linter.unusedVariables false
namespace Go.Proofs.Ytnnaigoomipklaa.M
open Go

theorem splice_in1 {α : Type} (cur X R : List α) {i k : Nat} (hR : i + R.length = k) (hfit : k + X.length ≤ cur.length) : (splice (splice cur k X) i R).take (k + X.length) = cur.take i ++ (R ++ X) := by
  have e1 : (splice cur k X).take i = cur.take i := by
    unfold splice
    rw [List.take_append_of_le_length (by simp; omega), List.take_take, Nat.min_eq_left (by omega)]
  have e2 : (splice cur k X).drop (i + R.length) = X ++ cur.drop (k + X.length) := by
    unfold splice
    rw [hR, List.drop_append, List.drop_of_length_le (by simp; omega)]
    simp [Nat.min_eq_left (show k ≤ cur.length by omega)]
  have e3 : splice (splice cur k X) i R = (cur.take i ++ (R ++ X)) ++ cur.drop (k + X.length) := by
    rw [splice, e1, e2]; simp
  rw [e3, List.take_append_of_le_length (by simp; omega), List.take_of_length_le (by simp; omega)]
theorem splice_in2 {α : Type} (cur X R : List α) {i k : Nat} (hR : i + R.length = k) (hfit : k + X.length ≤ cur.length) : (splice (splice cur i R) k X).take (k + X.length) = cur.take i ++ (R ++ X) := by
  have e1 : (splice cur i R).take k = cur.take i ++ R := by
    unfold splice
    rw [← List.append_assoc, List.take_append_of_le_length (by simp; omega), List.take_of_length_le (by simp; omega)]
  have e3 : splice (splice cur i R) k X = (cur.take i ++ (R ++ X)) ++ (splice cur i R).drop (k + X.length) := by
    have hs : ∀ (Y : List α) (o : Nat) (c : List α), splice Y o c = Y.take o ++ (c ++ Y.drop (o + c.length)) := fun _ _ _ => rfl
    rw [hs (splice cur i R) k X, e1]
    simp
  rw [e3, List.take_append_of_le_length (by simp; omega), List.take_of_length_le (by simp; omega)]
theorem splice_in0 {α : Type} (cur R : List α) {i k : Nat} (hR : i + R.length = k) (hfit : k ≤ cur.length) : (splice cur i R).take k = cur.take i ++ R := by
  unfold splice
  rw [← List.append_assoc, List.take_append_of_le_length (by simp; omega), List.take_of_length_le (by simp; omega)]
theorem splice_take {α : Type} (L cs : List α) {off q : Nat} (h : q ≤ off) (h2 : off ≤ L.length) : (splice L off cs).take q = L.take q := by
  unfold splice
  rw [List.take_append_of_le_length (by simp; omega), List.take_take, Nat.min_eq_left h]
theorem splice_past {α : Type} (L cs : List α) {off p : Nat} (h : off + cs.length ≤ p) (hl : off + cs.length ≤ L.length) : (splice L off cs)[p]? = L[p]? := by
  unfold splice
  rw [← List.append_assoc, List.getElem?_append_right (by simp; omega), List.getElem?_drop]
  congr 1
  simp
  omega
theorem take_of_take {α : Type} {L xs : List α} {n i : Nat} (h : L.take n = xs) (hi : i ≤ n) : L.take i = xs.take i := by
  rw [← h, List.take_take, Nat.min_eq_left hi]

end Go.Proofs.Ytnnaigoomipklaa.M

namespace Go.Proofs.Ytnnaigoomipklaa
open Go.RowKit Go.ChangeShapes Go.WideShapes M

theorem minL {a b c : Nat} (h : a = b) (h2 : b ≤ c) : a = Nat.min b c := by show a = min b c; omega
theorem minR {a b c : Nat} (h : a = c) (h2 : c ≤ b) : a = Nat.min b c := by show a = min b c; omega
/-- Texts as values. -/
def tv (l : List ByteArray) : List Value := l.map Value.string
theorem tv_len (l : List ByteArray) : (tv l).length = l.length := by simp [tv]
theorem tv_app (a b : List ByteArray) : tv (a ++ b) = tv a ++ tv b := by simp [tv]
theorem tv_take (l : List ByteArray) (k : Nat) : tv (l.take k) = (tv l).take k := by simp [tv]
theorem tv_drop (l : List ByteArray) (k : Nat) : tv (l.drop k) = (tv l).drop k := by simp [tv]
theorem tv_one (l : List ByteArray) : ∀ v ∈ tv l, v.oneCell' = true := fun v hv => by
  unfold tv at hv
  obtain ⟨s, _, rfl⟩ := List.mem_map.1 hv
  rfl

theorem tail_src {cur : List Value} {l : List ByteArray} {n i : Nat} (h : cur.take n = tv l) : ∀ (j : Nat) v, (tv (l.drop i))[j]? = some v → cur[i + j]? = some v := fun j v hv => by
  rw [tv_drop, ← h, List.getElem?_drop, List.getElem?_take] at hv
  split at hv
  · exact hv
  · cases hv
theorem ownV_of_row {w : World} {g base q cap : Nat} {cur : List Value} {l : List ByteArray} (hg : RowV w g cur) (hb : base ≤ g) (hl : l.length = q) (hq : q ≤ cap) (hc : cap ≤ maxLen) (hcl : cur.length = cap) (ht : cur.take q = tv l) (hs : ∀ s ∈ l, s.size ≤ maxLen) : OwnV w base (.slice (some ⟨g, 0, none⟩) q cap) l := by
  subst hl
  refine ⟨⟨by simp, .inr ⟨g, cap, _, rfl, hb, hg, hq, hc, by simpa using hcl, ?_⟩⟩, hs⟩
  rw [Nat.mul_one]
  exact ht
theorem row_of_ownV {w : World} {g base n cap : Nat} {l : List ByteArray} (h : OwnV w base (.slice (some ⟨g, 0, none⟩) n cap) l) : ∃ cur : List Value, RowV w g cur ∧ base ≤ g ∧ l.length = n ∧ n ≤ cap ∧ cap ≤ maxLen ∧ cur.length = cap ∧ cur.take n = tv l := by
  have hl := h.strs.len
  rcases h.row.2 with ⟨hv, _⟩ | ⟨g', cap', cur, hv, hb, hg, h1, h2, h3, h4⟩
  · cases hv
  · injection hv with e1 e2 e3
    injection e1 with e1
    injection e1 with e1
    subst e1 e3
    refine ⟨cur.toList, by unfold RowV; simpa using hg, hb, hl, by omega, h2, by simpa using h3, ?_⟩
    rw [← e2] at h4
    rw [Nat.mul_one] at h4
    exact h4
theorem strs_src {w : World} {B : Option Addr} {m : Nat} {r : List ByteArray} (h : Strs w B m r) : 0 < m → ∃ ad, B = some ad ∧ ∀ j v, (tv r)[j]? = some v → w.cell? (ad.add j) = some v := fun hm => by
  have hr0 : 0 < r.length := by rw [h.len]; exact hm
  obtain ⟨b, off, e, _⟩ := h.cell 0 _ (List.getElem?_eq_getElem hr0)
  refine ⟨_, e, fun j v hv => ?_⟩
  unfold tv at hv
  rw [List.getElem?_map] at hv
  cases hj : r[j]? with
  | none => rw [hj] at hv; cases hv
  | some t =>
    rw [hj] at hv
    injection hv with hv
    subst hv
    obtain ⟨b', off', e', hc⟩ := h.cell j t hj
    rw [e] at e'
    injection e' with e'
    injection e' with e1 e2
    subst e1 e2
    rw [add_at]
    exact hc
theorem row_src {w : World} {g off : Nat} {cur : List Value} (h : RowV w g cur) (cs : List Value) (hc : ∀ (j : Nat) v, cs[j]? = some v → cur[off + j]? = some v) : ∀ (j : Nat) v, cs[j]? = some v → w.cell? ((⟨g, off, none⟩ : Addr).add j) = some v := fun j v hj => by
  rw [add_at]
  exact h.cell (hc j v hj)

theorem cell_wrote {S : Nat → Prop} {w w' : World} (hw : Wrote S w w') {p : Addr} {v : Value} (hn : ¬ S p.block) (h : w.cell? p = some v) : w'.cell? p = some v := by
  have e := hw.block p.block (cell_lt h) hn
  unfold World.cell? at h ⊢
  rw [e]
  exact h
theorem block_add (a : Addr) (j : Nat) : (a.add j).block = a.block := by unfold Addr.add; split <;> rfl
theorem src_wrote {S : Nat → Prop} {w w' : World} (hw : Wrote S w w') {ad : Addr} {cs : List Value} (hn : ¬ S ad.block) (h : ∀ (j : Nat) v, cs[j]? = some v → w.cell? (ad.add j) = some v) : ∀ (j : Nat) v, cs[j]? = some v → w'.cell? (ad.add j) = some v :=
  fun j v hv => cell_wrote hw (by rw [block_add]; exact hn) (h j v hv)

theorem cutA_some {g cap k : Nat} (h : k < cap) : cutA (some ⟨g, 0, none⟩) cap k = some ⟨g, k, none⟩ := by
  unfold cutA
  rw [if_neg (by omega)]
  simp only [Option.map_some, add_g]
theorem str_size (w : World) : (sizeOf 9).run Try.prog w = .ok 1 w := by
  obtain ⟨i, q1, q2, q3, q4⟩ := info_parts str_info
  simp [sizeOf, typeInfo, q1, q3]
/-- Two slices in two blocks do not lie over one another. -/
theorem run_overlaps_w (w : World) (a b : Addr) (la ca lb cb : Nat) (hne : a.block ≠ b.block) {ca' cb' : List Value} (ha : RowV w a.block ca') (hb : RowV w b.block cb') (hb0 : cb' ≠ []) (hs : a.spot = none) :
    (callFunc 97 #[.slice (some a) la ca, .slice (some b) lb cb]).run Try.prog w = .ok (.value (.bool false)) w := by
  obtain ⟨ab, ao, asp⟩ := a
  dsimp only at hs ha hne
  subst hs
  rw [run_callFunc_extern Try.func97 (by kernel_rfl) (by kernel_rfl) (by kernel_rfl) (e := Extern.SlicesOverlaps.overlaps #[22, 22] #[4]) (by kernel_rfl),
    Lib.run_overlaps_apart w 22 4 9 Try.underlying22 1 str_size ⟨ab, ao, none⟩ b la ca lb cb hne _ _ _ _ ha.shape hb.shape (by have := List.length_pos_iff.2 hb0; omega) ha.free ha.free]
  rfl

end Go.Proofs.Ytnnaigoomipklaa
