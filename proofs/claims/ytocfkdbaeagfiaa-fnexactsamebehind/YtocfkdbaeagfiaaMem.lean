/-
  Words for memory: a slice of texts that reads as a list.
-/
import Derived.WalkKit
import Derived.ProofKit
import Derived.SliceStrings
import Derived.WalkSpells
import Derived.WalkLawsBesides
import Derived.Lib.Hide
import Derived.Deep.QuietTactic
import Derived.BigQuiet
import Derived.WalkSmall
set_option linter.unusedSimpArgs false
set_option linter.unusedVariables false
namespace Go.Proofs.Ytocfkdbaeagfiaa
open Go.RowKit Go.ChangeShapes Go.WideShapes

theorem ret_bool {a b : Bool} (h : a = b) : Ending.returned (.bool a) = .returned (.bool b) := by rw [h]
theorem ret_int {k : IntKind} {a b : Int} (h : a = b) : Ending.returned (.int k a) = .returned (.int k b) := by rw [h]
theorem ret_str {a b : ByteArray} (h : a = b) : Ending.returned (.string a) = .returned (.string b) := by rw [h]

theorem cell_lt {w : World} {p : Addr} {v : Value} (h : w.cell? p = some v) : p.block < w.heap.size := by
  rcases Nat.lt_or_ge p.block w.heap.size with hl | hg
  · exact hl
  · simp [World.cell?, Array.getElem?_eq_none hg] at h

theorem cell_keep {w w' : World} (hb : Below w.heap.size w w') {p : Addr} {v : Value} (h : w.cell? p = some v) : w'.cell? p = some v :=
  (hb.cell (cell_lt h)).trans h

theorem _root_.Go.RowKit.Below.next {a b c : World} (h : Below a.heap.size a b) (k : Below b.heap.size b c) : Below a.heap.size a c := h.trans (k.mono h.size)

/-- The world is as it was, but that the tape has been drawn from. -/
def Drawn (w w' : World) : Prop := ∃ m, w' = w.drewN m
theorem Drawn.refl (w : World) : Drawn w w := ⟨0, rfl⟩
theorem Drawn.more {w w' : World} (h : Drawn w w') (n : Nat) : Drawn w (w'.drewN n) := by
  obtain ⟨m, rfl⟩ := h
  exact ⟨m + n, World.drewN_drewN _ _ _⟩
theorem Drawn.trans {a b c : World} (h : Drawn a b) (k : Drawn b c) : Drawn a c := by
  obtain ⟨n, rfl⟩ := k
  exact h.more n
theorem Drawn.below {w w' : World} (h : Drawn w w') : Below w.heap.size w w' := by
  obtain ⟨m, rfl⟩ := h
  exact below_drewN (Below.refl _ _) m

/-- The address and the length of a slice of texts, in a world, and the texts. -/
structure Strs (w : World) (a : Option Addr) (n : Nat) (l : List ByteArray) : Prop where
  len : l.length = n
  lim : n ≤ maxLen
  small : ∀ s ∈ l, s.size ≤ maxLen
  cell : ∀ k s, l[k]? = some s → ∃ b off, a = some ⟨b, off, none⟩ ∧ w.cell? ⟨b, off + k, none⟩ = some (.string s)

section
variable {w w' : World} {a : Option Addr} {n k : Nat} {l : List ByteArray}
theorem Strs.at_ (h : Strs w a n l) (hk : k < n) : ∃ b off s, a = some ⟨b, off, none⟩ ∧ l[k]? = some s ∧ s.size ≤ maxLen ∧ w.cell? ⟨b, off + k, none⟩ = some (.string s) := by
  have hl : k < l.length := by rw [h.len]; exact hk
  obtain ⟨b, off, e, hc⟩ := h.cell k _ (List.getElem?_eq_getElem hl)
  exact ⟨b, off, _, e, List.getElem?_eq_getElem hl, h.small _ (List.getElem_mem hl), hc⟩
theorem Strs.below (h : Strs w a n l) (hb : Below w.heap.size w w') : Strs w' a n l :=
  ⟨h.len, h.lim, h.small, fun k s hs => by
    obtain ⟨b, off, e, hc⟩ := h.cell k s hs
    exact ⟨b, off, e, cell_keep hb hc⟩⟩
theorem Strs.nil_ : Strs w a 0 [] := ⟨rfl, Nat.zero_le _, fun s h => by simp at h, fun k s h => by simp at h⟩
end

/-- A block of the call's own that holds just these texts. -/
structure Own (w : World) (g : Nat) (l : List ByteArray) : Prop where
  heap : w.heap[g]? = some (.cells (l.map Value.string).toArray 9 (0, 0))

section
variable {w w' : World} {g k : Nat} {l : List ByteArray} {s : ByteArray}
theorem Own.lt (h : Own w g l) : g < w.heap.size := by
  rcases Nat.lt_or_ge g w.heap.size with hl | hg
  · exact hl
  · have := h.heap; rw [Array.getElem?_eq_none hg] at this; cases this
theorem Own.cell (h : Own w g l) (hs : l[k]? = some s) : w.cell? ⟨g, k, none⟩ = some (.string s) := by
  simp [World.cell?, h.heap, hs]
theorem Own.frozen (h : Own w g l) : w.frozen? ⟨g, k, none⟩ = false := by
  simp [World.frozen?, h.heap]
theorem Own.set_ (h : Own w g l) (k : Nat) (s : ByteArray) : Own (w.setCell ⟨g, k, none⟩ (.string s)) g (l.set k s) := by
  refine ⟨?_⟩
  have h0 := h.heap
  simp [World.setCell, Array.getElem?_modify, h0, List.map_set]
theorem Own.keep (h : Own w g l) (e : w'.heap[g]? = w.heap[g]?) : Own w' g l := ⟨e.trans h.heap⟩
theorem Own.below (h : Own w g l) (hb : Below w.heap.size w w') : Own w' g l := h.keep (hb.block g h.lt)
theorem Own.strs (h : Own w g l) (hm : l.length ≤ maxLen) (hs : ∀ s ∈ l, s.size ≤ maxLen) : Strs w (some ⟨g, 0, none⟩) l.length l :=
  ⟨rfl, hm, hs, fun k s hk => ⟨g, 0, rfl, by rw [Nat.zero_add]; exact h.cell hk⟩⟩
theorem Own.new (w : World) (l : List ByteArray) : Own (w.alloc (.cells (l.map Value.string).toArray 9)) w.heap.size l := ⟨heap_alloc_new w _⟩
end

/-- The cells of a new slice of n texts. -/
def blanks (n : Nat) : Array Value := ((List.replicate n ByteArray.empty).map Value.string).toArray
theorem run_make_strs {P : Program} (t e : TypeId) (i : TypeInfo) (ht : P.underlying t = some (.slice e)) (hi : P.info? e = some i) (hz : i.zero = some (.string ByteArray.empty)) (hs : i.size = 1) (hb : i.bytes = 16)
    (n : Nat) (hn : n ≤ 1099511627776) (w : World) :
    (Instr.makeSlice t (.int .i64 (n : Int)) (.int .i64 (n : Int))).run P w = .ok (.slice (some ⟨w.heap.size, 0, none⟩) n n) (w.alloc (.cells (blanks n) e)) := by
  have hr := run_make (P := P) w t e i _ ht hi hz .i64 .i64 n n (by omega) (by omega) (by rw [hb]; omega) (by omega)
  have e1 : madeCells (Value.string ByteArray.empty).cells ((n : Int).toNat * i.size) = blanks n := by
    apply Array.ext'
    rw [hs, Nat.mul_one, Int.toNat_natCast]
    show (madeCells #[Value.string ByteArray.empty] n).toList = _
    rw [toList_madeCells_one]
    simp [blanks]
  rw [e1] at hr
  simpa using hr

theorem strs_of_trod {H : Type} {enc : TypeId × Value → H} {P : Program} {w : World} {base : Nat} {spare : Nat → Bool} {held : Bool} {t e : TypeId} {a : Option Addr} {n c : Nat} {d : DataW H} {ps : List MemPlace}
    (ht : P.underlying t = some (.slice e)) (he : P.underlying e = some .string) (hc : P.cellsOf e = 1) (h : DataW.Trod enc P w base spare held t (.slice a n c) d ps) : ∃ l, Strs w a n l := by
  obtain ⟨fuel, hf⟩ := h
  rcases open_strings ht he hc hf with ⟨hcs, _⟩ | ⟨x, len, cap, ss, hcs, _, hl, hm, hz, _, hcell, hsz⟩
  · simp [Value.cells] at hcs
    obtain ⟨rfl, rfl, rfl⟩ := hcs
    exact ⟨[], Strs.nil_⟩
  · simp [Value.cells] at hcs
    obtain ⟨rfl, rfl, rfl⟩ := hcs
    have hlen : n ≤ ss.length := by rw [hz]; split <;> omega
    refine ⟨ss.take n, by simp; omega, by omega, fun s hs => hsz s (List.mem_of_mem_take hs), fun k s hs => ?_⟩
    rw [List.getElem?_take] at hs
    split at hs
    case isFalse => cases hs
    case isTrue hk =>
      have h1 := hcell k (by omega)
      have h2 : ss.getD k ByteArray.empty = s := by simp [hs]
      rw [h2] at h1
      obtain ⟨b, off, spot⟩ := x
      have h0 := hcell 0 (by omega)
      have hs0 : spot = none := by simpa [Addr.add] using World.cell?_spot h0
      subst hs0
      refine ⟨b, off, rfl, ?_⟩
      by_cases hk0 : k = 0
      · subst hk0; simpa [Addr.add] using h1
      · simpa [Addr.add, hk0] using h1

theorem int_range {x : Int} (h : (Lit.int .i64 x).wf = true) : -9223372036854775808 ≤ x ∧ x ≤ 9223372036854775807 := by
  simpa [Lit.wf, IntKind.min, IntKind.max, IntKind.signed, IntKind.bits] using h

end Go.Proofs.Ytocfkdbaeagfiaa
