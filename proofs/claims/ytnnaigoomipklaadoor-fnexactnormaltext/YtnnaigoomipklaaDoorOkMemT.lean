/-
  Words for memory: a slice of texts that reads as a list.
  The laws' own small functions on texts: counted, copied, compared, marked.
-/
import Derived.WalkKit
import Derived.ProofKit
import Derived.SliceStrings
import Derived.WalkSpells
import Derived.WalkLawsBesides
import Derived.Lib.Hide
import Derived.Deep.QuietTactic
import Derived.BigQuiet
import Derived.WalkSmall
import Derived.Laws.CopyOwn
import Derived.Maps.AppendAt
import Derived.Deep.AppendLies
import Derived.Test.YtnnaigoomipklaaDoorProg
import Derived.Test.YtnnaigoomipklaaDoorOkBase
import Derived.Deep.RegionWith
import Derived.Deep.RegionHeld3
set_option linter.unusedSimpArgs false
set_option linter.unusedVariables false
namespace Go.Proofs.YtnnaigoomipklaaDoor
open Go.RowKit Go.ChangeShapes Go.WideShapes

theorem ret_bool {a b : Bool} (h : a = b) : Ending.returned (.bool a) = .returned (.bool b) := by rw [h]
theorem ret_int {k : IntKind} {a b : Int} (h : a = b) : Ending.returned (.int k a) = .returned (.int k b) := by rw [h]
theorem ret_str {a b : ByteArray} (h : a = b) : Ending.returned (.string a) = .returned (.string b) := by rw [h]

theorem cell_lt {w : World} {p : Addr} {v : Value} (h : w.cell? p = some v) : p.block < w.heap.size := by
  rcases Nat.lt_or_ge p.block w.heap.size with hl | hg
  · exact hl
  · simp [World.cell?, Array.getElem?_eq_none hg] at h

theorem cell_keep {w w' : World} (hb : Below w.heap.size w w') {p : Addr} {v : Value} (h : w.cell? p = some v) : w'.cell? p = some v :=
  (hb.cell (cell_lt h)).trans h

theorem _root_.Go.RowKit.Below.next {a b c : World} (h : Below a.heap.size a b) (k : Below b.heap.size b c) : Below a.heap.size a c := h.trans (k.mono h.size)

/-- The world is as it was, but that the tape has been drawn from. -/
def Drawn (w w' : World) : Prop := ∃ m, w' = w.drewN m
theorem Drawn.refl (w : World) : Drawn w w := ⟨0, rfl⟩
theorem Drawn.more {w w' : World} (h : Drawn w w') (n : Nat) : Drawn w (w'.drewN n) := by
  obtain ⟨m, rfl⟩ := h
  exact ⟨m + n, World.drewN_drewN _ _ _⟩
theorem Drawn.below {w w' : World} (h : Drawn w w') : Below w.heap.size w w' := by
  obtain ⟨m, rfl⟩ := h
  exact below_drewN (Below.refl _ _) m

/-- The address and the length of a slice of texts, in a world, and the texts. -/
structure Strs (w : World) (a : Option Addr) (n : Nat) (l : List ByteArray) : Prop where
  len : l.length = n
  lim : n ≤ maxLen
  small : ∀ s ∈ l, s.size ≤ maxLen
  cell : ∀ k s, l[k]? = some s → ∃ b off, a = some ⟨b, off, none⟩ ∧ w.cell? ⟨b, off + k, none⟩ = some (.string s)

section
variable {w w' : World} {a : Option Addr} {n k : Nat} {l : List ByteArray}
theorem Strs.at_ (h : Strs w a n l) (hk : k < n) : ∃ b off s, a = some ⟨b, off, none⟩ ∧ l[k]? = some s ∧ s.size ≤ maxLen ∧ w.cell? ⟨b, off + k, none⟩ = some (.string s) := by
  have hl : k < l.length := by rw [h.len]; exact hk
  obtain ⟨b, off, e, hc⟩ := h.cell k _ (List.getElem?_eq_getElem hl)
  exact ⟨b, off, _, e, List.getElem?_eq_getElem hl, h.small _ (List.getElem_mem hl), hc⟩
theorem Strs.below (h : Strs w a n l) (hb : Below w.heap.size w w') : Strs w' a n l :=
  ⟨h.len, h.lim, h.small, fun k s hs => by
    obtain ⟨b, off, e, hc⟩ := h.cell k s hs
    exact ⟨b, off, e, cell_keep hb hc⟩⟩
theorem Strs.nil_ : Strs w a 0 [] := ⟨rfl, Nat.zero_le _, fun s h => by simp at h, fun k s h => by simp at h⟩
end

/-- A block of the call's own that holds just these texts. -/
structure Own (w : World) (g : Nat) (l : List ByteArray) : Prop where
  heap : w.heap[g]? = some (.cells (l.map Value.string).toArray 9 (0, 0))

section
variable {w w' : World} {g k : Nat} {l : List ByteArray} {s : ByteArray}
theorem Own.cell (h : Own w g l) (hs : l[k]? = some s) : w.cell? ⟨g, k, none⟩ = some (.string s) := by
  simp [World.cell?, h.heap, hs]
theorem Own.frozen (h : Own w g l) : w.frozen? ⟨g, k, none⟩ = false := by
  simp [World.frozen?, h.heap]
theorem Own.set_ (h : Own w g l) (k : Nat) (s : ByteArray) : Own (w.setCell ⟨g, k, none⟩ (.string s)) g (l.set k s) := by
  refine ⟨?_⟩
  have h0 := h.heap
  simp [World.setCell, Array.getElem?_modify, h0, List.map_set]
theorem Own.new (w : World) (l : List ByteArray) : Own (w.alloc (.cells (l.map Value.string).toArray 9)) w.heap.size l := ⟨heap_alloc_new w _⟩
end

/-- A value that is a slice of the call's own, made from block 'base' on, of just these texts. -/
structure OwnV (w : World) (base : Nat) (v : Value) (l : List ByteArray) : Prop where
  row : w.ownsRow base 9 1 v l.length (l.map Value.string)
  small : ∀ s ∈ l, s.size ≤ maxLen

theorem grown_of_below {a w : World} (h : Below a.heap.size a w) (row : Option Nat) : a.grownBy w row := ⟨h.os, h.tape, h.output, h.size, fun i hi _ => h.block i hi⟩

section
variable {w w' : World} {base n cap g k : Nat} {v : Value} {A : Option Addr} {l : List ByteArray} {s : ByteArray}
theorem OwnV.form (h : OwnV w base v l) (hn : l.length = n) : ∃ A cap, v = .slice A n cap ∧ n ≤ cap ∧ cap ≤ maxLen := by
  subst hn
  rcases h.row.2 with ⟨hv, h0⟩ | ⟨g, cap, cur, hv, _, _, h1, h2, _⟩
  · exact ⟨none, 0, by rw [hv, h0], by omega, by omega⟩
  · exact ⟨_, cap, hv, h1, h2⟩
theorem OwnV.strs (h : OwnV w base (.slice A n cap) l) : Strs w A n l := by
  rcases h.row.2 with ⟨hv, h0⟩ | ⟨g, cap', cur, hv, _, hg, h1, h2, h3, h4⟩
  · injection hv with e1 e2 e3
    subst e2
    have : l = [] := List.eq_nil_of_length_eq_zero h0
    subst this
    exact Strs.nil_
  · injection hv with e1 e2 e3
    subst e1 e2
    refine ⟨rfl, by omega, h.small, fun k s hs => ⟨g, 0, rfl, ?_⟩⟩
    have h5 := h.row.cells (g := g) rfl k (.string s) (by simp [hs])
    have e : (⟨g, 0, none⟩ : Addr).add k = ⟨g, 0 + k, none⟩ := by
      unfold Addr.add
      by_cases hk : k = 0 <;> simp [hk]
    rw [e] at h5
    exact h5
theorem OwnV.kept {row : Option Nat} (h : OwnV w base v l) (hg : w.grownBy w' row) (hne : ∀ g, row = some g → v.ownBlock ≠ some g) : OwnV w' base v l := by
  refine ⟨h.row.kept hg ?_, h.small⟩
  cases row with
  | none =>
    cases hv : v.ownBlock with
    | none => exact .inl rfl
    | some g => exact .inr (by simp)
  | some g => exact .inr (hne g rfl)
theorem OwnV.below (h : OwnV w base v l) (hb : Below w.heap.size w w') : OwnV w' base v l := h.kept (grown_of_below hb none) (fun g e => by cases e)
theorem OwnV.lt (h : OwnV w base v l) (e : v.ownBlock = some g) : base ≤ g ∧ g < w.heap.size := h.row.lt g e
theorem OwnV.nil_ : OwnV w base (.slice none 0 0) [] := ⟨w.ownsRow_nil base _ _, fun s h => by simp at h⟩
theorem OwnV.more (h : OwnV w base v l) {b2 : Nat} (hb : b2 ≤ base) : OwnV w b2 v l := by
  refine ⟨⟨h.row.1, ?_⟩, h.small⟩
  rcases h.row.2 with h1 | ⟨g, cap, cur, h1, h2, h3⟩
  · exact .inl h1
  · exact .inr ⟨g, cap, cur, h1, by omega, h3⟩
theorem Own.ownV (h : Own w g l) (hb : base ≤ g) (hm : l.length ≤ maxLen) (hs : ∀ s ∈ l, s.size ≤ maxLen) : OwnV w base (.slice (some ⟨g, 0, none⟩) l.length l.length) l :=
  ⟨⟨by simp, .inr ⟨g, l.length, _, rfl, hb, h.heap, Nat.le_refl _, hm, by simp, by rw [Nat.mul_one]; exact List.take_of_length_le (by simp)⟩⟩, hs⟩
end

theorem below_alloc (w : World) (o : Obj) : Below w.heap.size w (w.alloc o) := (Below.refl _ _).alloc (Nat.le_refl _) o
theorem OwnV.lit (w : World) (base : Nat) (hb : base ≤ w.heap.size) (l : List ByteArray) (hm : l.length ≤ maxLen) (hs : ∀ s ∈ l, s.size ≤ maxLen) :
    OwnV (w.alloc (.cells (l.map Value.string).toArray 9)) base (.slice (some ⟨w.heap.size, 0, none⟩) l.length l.length) l := (Own.new w l).ownV hb hm hs

/-- The address of a slice that is cut at its beginning. -/
def cutA (a : Option Addr) (c lo : Nat) : Option Addr := if c = lo then a else a.map (·.add lo)
theorem run_cut {P : Program} {t e : TypeId} {i : TypeInfo} (ht : P.underlying t = some (.slice e)) (hi : P.info? e = some i) (hs : i.size = 1) (a : Option Addr) (n c lo hi' : Nat) (h1 : lo ≤ hi') (h2 : hi' ≤ c) (w : World) :
    (Instr.slice t (.slice a n c) (some (.int .i64 (lo : Int))) (some (.int .i64 (hi' : Int))) none).run P w = .ok (.slice (cutA a c lo) (hi' - lo) (c - lo)) w := by
  have he : P.elem t = e := by simp [Program.elem, ht]
  have := run_slice_lh (P := P) w t a n c (by rw [he]; exact ht) .i64 .i64 lo hi' (by omega) (by omega) (by omega)
  rw [this, he]
  simp [sizeOf, typeInfo, hi, hs, sliced, cutA]
theorem cutA_zero (a : Option Addr) (c : Nat) : cutA a c 0 = a := by
  unfold cutA
  split
  · rfl
  · cases a <;> simp [Addr.add]
theorem run_cut_lo {P : Program} {t e : TypeId} {i : TypeInfo} (ht : P.underlying t = some (.slice e)) (hi : P.info? e = some i) (hs : i.size = 1) (a : Option Addr) (n c lo : Nat) (h1 : lo ≤ n) (h2 : n ≤ c) (w : World) :
    (Instr.slice t (.slice a n c) (some (.int .i64 (lo : Int))) none none).run P w = .ok (.slice (cutA a c lo) (n - lo) (c - lo)) w := by
  have he : P.elem t = e := by simp [Program.elem, ht]
  have := run_slice_l (P := P) w t a n c (by rw [he]; exact ht) .i64 lo (by omega) (by omega)
  rw [this, he]
  simp [sizeOf, typeInfo, hi, hs, sliced, cutA]
theorem Strs.cut {w : World} {a : Option Addr} {n c lo hi : Nat} {l : List ByteArray} (h : Strs w a n l) (h1 : lo ≤ hi) (h2 : hi ≤ n) (h3 : n ≤ c) : Strs w (cutA a c lo) (hi - lo) ((l.take hi).drop lo) := by
  refine ⟨by simp [h.len]; omega, by have := h.lim; omega, fun s hs => h.small s (List.mem_of_mem_take (List.mem_of_mem_drop hs)), fun k s hs => ?_⟩
  rw [List.getElem?_drop, List.getElem?_take] at hs
  split at hs
  case isFalse => cases hs
  case isTrue hk =>
    obtain ⟨b, off, rfl, hc⟩ := h.cell _ _ hs
    refine ⟨b, off + lo, ?_, by rw [Nat.add_assoc]; exact hc⟩
    unfold cutA
    rw [if_neg (by omega)]
    unfold Addr.add
    by_cases h0 : lo = 0 <;> simp [h0]

/-- An operation that is carried out, guarded or not. -/
theorem wpList_wanted {P : Program} {ops : Array Oper} {rest : List Oper} {o : Oper} {a : Act} {Q : Exit → Act → World → Prop} {w : World} (hw : Region.wanted o (yielded ops a.tmps) = true)
    (h : ∀ K : Act → World → Prop, (∀ a w, wpList P ops Q rest a w → K a w) → o.wp P a w K Q) : wpList P ops Q (o :: rest) a w :=
  wpList_step fun K hK => by rw [if_pos hw]; exact h K hK

/-- append of texts to texts of the call's own. -/
theorem run_app {P : Program} {w : World} {t : TypeId} (ht : P.underlying t = some (.slice 9)) {i : TypeInfo} (hi : P.info? 9 = some i) (hz : i.zero = some (.string ByteArray.empty)) (hsize : i.size = 1) (hby : i.bytes = 16) (ty : TypeId)
    (base : Nat) (v : Value) (l : List ByteArray) (hown : OwnV w base v l) (A : Option Addr) (m c : Nat) (r : List ByteArray) (hr : Strs w A m r) (hbound : l.length + m ≤ 4294967296) (hbase : base ≤ w.heap.size) :
    ∃ v' w', (Builtin.append_ #[t, t] ty #[v, .slice A m c]).run P w = .ok v' w' ∧ OwnV w' base v' (l ++ r) ∧ w.grownBy w' v.ownBlock ∧ (v'.ownBlock = v.ownBlock ∨ v'.ownBlock = some w.heap.size) := by
  cases A with
  | none =>
    have hm : r = [] := by
      cases r with
      | nil => rfl
      | cons s r => obtain ⟨b, off, e, _⟩ := hr.cell 0 s rfl; cases e
    subst hm
    have hm0 : m = 0 := hr.len.symm
    subst hm0
    refine ⟨v, w, ?_, by simpa using hown, ⟨rfl, rfl, rfl, Nat.le_refl _, fun _ _ _ => rfl⟩, .inl rfl⟩
    rcases hown.row.2 with ⟨hv, hl⟩ | ⟨g, cap, cur, hv, _, _, hnc, _⟩
    · subst hv
      simp [Builtin.append_, run_underlying ht, sizeOf, typeInfo, hi, Builtin.lenOf, Builtin.firstCells]
    · subst hv
      simp [Builtin.append_, run_underlying ht, sizeOf, typeInfo, hi, Builtin.lenOf, Builtin.firstCells, hnc, storeCells]
  | some ad =>
    have hnews : ∀ j u, (r.map Value.string)[j]? = some u → w.cell? (ad.add j) = some u := by
      intro j u hu
      rw [List.getElem?_map] at hu
      cases hj : r[j]? with
      | none => rw [hj] at hu; cases hu
      | some s =>
        rw [hj] at hu
        obtain ⟨b, off, e, hc⟩ := hr.cell j s hj
        injection e with e
        subst e
        injection hu with hu
        subst hu
        have e2 : (⟨b, off, none⟩ : Addr).add j = ⟨b, off + j, none⟩ := by unfold Addr.add; by_cases h0 : j = 0 <;> simp [h0]
        rw [e2]
        exact hc
    obtain ⟨v', w', hrun, h1, h2, _, h4⟩ := run_append_own_at (P := P) w base t ty 9 i _ 1 16 ht hi hz hsize hby rfl (by omega) v l.length (l.map Value.string) hown.row ad m c (r.map Value.string) (by simp [hr.len]) hnews (fun u hu => by
      rw [List.mem_map] at hu
      obtain ⟨s, _, rfl⟩ := hu
      rfl) (by unfold maxLen; omega) (by omega) hbase
    refine ⟨v', w', hrun, ⟨?_, fun s hs => ?_⟩, h2, h4⟩
    · rw [List.length_append, hr.len, List.map_append]; exact h1
    · rcases List.mem_append.1 hs with h5 | h5
      · exact hown.small s h5
      · exact hr.small s h5

theorem wpList_app {P : Program} {w : World} {t : TypeId} (ht : P.underlying t = some (.slice 9)) {i : TypeInfo} (hi : P.info? 9 = some i) (hz : i.zero = some (.string ByteArray.empty)) (hsize : i.size = 1) (hby : i.bytes = 16)
    {ops : Array Oper} {rest : List Oper} {o : Oper} {a : Act} {Q : Exit → Act → World → Prop} (s x : Operand) (base : Nat) (v : Value) (l : List ByteArray) (hown : OwnV w base v l) (A : Option Addr) (m c : Nat) (r : List ByteArray) (hr : Strs w A m r)
    (hbound : l.length + m ≤ 4294967296) (hbase : base ≤ w.heap.size) (hgd : Region.wanted o (yielded ops a.tmps) = true) (ho : o.op = .call { callee := .builtin .append, args := #[s, x], argTypes := #[t, t] }) (hs : a.eval s = v) (hx : a.eval x = .slice A m c)
    (h : ∀ v' w', OwnV w' base v' (l ++ r) → w.grownBy w' v.ownBlock → (v'.ownBlock = v.ownBlock ∨ v'.ownBlock = some w.heap.size) → wpList P ops Q rest (a.put o.dst v') w') : wpList P ops Q (o :: rest) a w := by
  obtain ⟨v', w', hrun, h1, h2, h3⟩ := run_app ht hi hz hsize hby o.type base v l hown A m c r hr hbound hbase
  refine wpList_wanted hgd fun K hK => ?_
  unfold Oper.wp execOp
  simp only [ho, resolve, invoke, builtin, Sem.run_bind, Sem.run_pure, Result.andThen_ok, List.map_toArray, List.map_cons, List.map_nil, hs, hx, hrun]
  exact hK _ _ (h v' w' h1 h2 h3)

theorem Strs.take_ {w : World} {a : Option Addr} {n hi : Nat} {l : List ByteArray} (h : Strs w a n l) (h2 : hi ≤ n) : Strs w a hi (l.take hi) := by
  have := h.cut (c := n) (Nat.zero_le hi) h2 (Nat.le_refl _)
  rw [cutA_zero] at this
  simpa using this
theorem Strs.drop_ {w : World} {a : Option Addr} {n c lo : Nat} {l : List ByteArray} (h : Strs w a n l) (h1 : lo ≤ n) (h3 : n ≤ c) : Strs w (cutA a c lo) (n - lo) (l.drop lo) := by
  have := h.cut (c := c) (hi := n) h1 (Nat.le_refl _) h3
  rwa [List.take_of_length_le (by rw [h.len]; exact Nat.le_refl _)] at this

/-- The cells of a new slice of n texts. -/
def blanks (n : Nat) : Array Value := ((List.replicate n ByteArray.empty).map Value.string).toArray
theorem run_make_strs {P : Program} (t e : TypeId) (i : TypeInfo) (ht : P.underlying t = some (.slice e)) (hi : P.info? e = some i) (hz : i.zero = some (.string ByteArray.empty)) (hs : i.size = 1) (hb : i.bytes = 16)
    (n : Nat) (hn : n ≤ 1099511627776) (w : World) :
    (Instr.makeSlice t (.int .i64 (n : Int)) (.int .i64 (n : Int))).run P w = .ok (.slice (some ⟨w.heap.size, 0, none⟩) n n) (w.alloc (.cells (blanks n) e)) := by
  have hr := run_make (P := P) w t e i _ ht hi hz .i64 .i64 n n (by omega) (by omega) (by rw [hb]; omega) (by omega)
  have e1 : madeCells (Value.string ByteArray.empty).cells ((n : Int).toNat * i.size) = blanks n := by
    apply Array.ext'
    rw [hs, Nat.mul_one, Int.toNat_natCast]
    show (madeCells #[Value.string ByteArray.empty] n).toList = _
    rw [toList_madeCells_one]
    simp [blanks]
  rw [e1] at hr
  simpa using hr

theorem strs_of_trod {H : Type} {enc : TypeId × Value → H} {P : Program} {w : World} {base : Nat} {spare : Nat → Bool} {held : Bool} {t e : TypeId} {a : Option Addr} {n c : Nat} {d : DataW H} {ps : List MemPlace}
    (ht : P.underlying t = some (.slice e)) (he : P.underlying e = some .string) (hc : P.cellsOf e = 1) (h : DataW.Trod enc P w base spare held t (.slice a n c) d ps) : ∃ l, Strs w a n l := by
  obtain ⟨fuel, hf⟩ := h
  rcases open_strings ht he hc hf with ⟨hcs, _⟩ | ⟨x, len, cap, ss, hcs, _, hl, hm, hz, _, hcell, hsz⟩
  · simp [Value.cells] at hcs
    obtain ⟨rfl, rfl, rfl⟩ := hcs
    exact ⟨[], Strs.nil_⟩
  · simp [Value.cells] at hcs
    obtain ⟨rfl, rfl, rfl⟩ := hcs
    have hlen : n ≤ ss.length := by rw [hz]; split <;> omega
    refine ⟨ss.take n, by simp; omega, by omega, fun s hs => hsz s (List.mem_of_mem_take hs), fun k s hs => ?_⟩
    rw [List.getElem?_take] at hs
    split at hs
    case isFalse => cases hs
    case isTrue hk =>
      have h1 := hcell k (by omega)
      have h2 : ss.getD k ByteArray.empty = s := by simp [hs]
      rw [h2] at h1
      obtain ⟨b, off, spot⟩ := x
      have h0 := hcell 0 (by omega)
      have hs0 : spot = none := by simpa [Addr.add] using World.cell?_spot h0
      subst hs0
      refine ⟨b, off, rfl, ?_⟩
      by_cases hk0 : k = 0
      · subst hk0; simpa [Addr.add] using h1
      · simpa [Addr.add, hk0] using h1

theorem int_range {x : Int} (h : (Lit.int .i64 x).wf = true) : -9223372036854775808 ≤ x ∧ x ≤ 9223372036854775807 := by
  simpa [Lit.wf, IntKind.min, IntKind.max, IntKind.signed, IntKind.bits] using h

def i64ok (x : Int) : Prop := -9223372036854775808 ≤ x ∧ x ≤ 9223372036854775807

/-- All but the blocks of S is as it was; new blocks may have come. -/
structure Wrote (S : Nat → Prop) (w w' : World) : Prop where
  os : w'.os = w.os
  tape : w'.tape = w.tape
  output : w'.output = w.output
  size : w.heap.size ≤ w'.heap.size
  block : ∀ k, k < w.heap.size → ¬ S k → w'.heap[k]? = w.heap[k]?

section
variable {S S' : Nat → Prop} {w w' w2 : World} {base n cap g k : Nat} {v u : Value} {A : Option Addr} {l : List ByteArray}
/-- What is written later may be what is new by then. -/
theorem Wrote.trans (h : Wrote S w w') (k : Wrote S' w' w2) (hs : ∀ i, i < w.heap.size → S' i → S i) : Wrote S w w2 :=
  ⟨k.os.trans h.os, k.tape.trans h.tape, k.output.trans h.output, Nat.le_trans h.size k.size, fun i hi hne => (k.block i (Nat.lt_of_lt_of_le hi h.size) (fun e => hne (hs i hi e))).trans (h.block i hi hne)⟩
theorem Wrote.of_below (h : Below w.heap.size w w') : Wrote S w w' := ⟨h.os, h.tape, h.output, h.size, fun i hi _ => h.block i hi⟩
theorem Wrote.of_grown {row : Option Nat} (h : w.grownBy w' row) (hs : ∀ k, row = some k → S k) : Wrote S w w' := ⟨h.os, h.tape, h.output, h.size, fun i hi hn => h.block i hi (fun e => hn (hs i e.symm))⟩
theorem Wrote.set (S : Nat → Prop) (w : World) (a : Addr) (u : Value) (hs : S a.block) : Wrote S w (w.setCell a u) :=
  ⟨rfl, rfl, rfl, by simp [World.setCell], fun i _ hn => Below.heap_setCell _ _ _ _ (fun e => hn (e ▸ hs))⟩
theorem Wrote.below {B : Nat} {a : World} (hb : Below B a w) (h : Wrote S w w') (hB : B ≤ w.heap.size) (hs : ∀ k, S k → B ≤ k) : Below B a w' :=
  hb.trans ⟨h.os, h.tape, h.output, h.size, fun k hk => h.block k (by omega) (fun e => by have := hs k e; omega)⟩
theorem ownsRow_wrote {e : TypeId} {size : Nat} {xs : List Value} (h : w.ownsRow base e size v n xs) (hw : Wrote S w w') (hne : ∀ g, v.ownBlock = some g → ¬ S g) : w'.ownsRow base e size v n xs := by
  refine ⟨h.1, ?_⟩
  rcases h.2 with hn | ⟨g, cap, cur, rfl, hb, hgg, rest⟩
  · exact .inl hn
  · refine .inr ⟨g, cap, cur, rfl, hb, ?_, rest⟩
    rw [hw.block g (Array.getElem?_eq_some_iff.1 hgg).1 (hne g rfl)]
    exact hgg
theorem OwnV.wrote (h : OwnV w base v l) (hw : Wrote S w w') (hne : ∀ g, v.ownBlock = some g → ¬ S g) : OwnV w' base v l := ⟨ownsRow_wrote h.row hw hne, h.small⟩
end

end Go.Proofs.YtnnaigoomipklaaDoor

namespace Go.Proofs.YtnnaigoomipklaaDoor
open Go.RowKit M

theorem str_info : (Tryd.prog.info? 9).map (fun i => (i.zero, i.size, i.bytes)) = some (some (.string ByteArray.empty), 1, 16) := by kernel_rfl
theorem info_parts {P : Program} {t : TypeId} {z : Value} {s b : Nat} (h : (P.info? t).map (fun i => (i.zero, i.size, i.bytes)) = some (some z, s, b)) : ∃ i, P.info? t = some i ∧ i.zero = some z ∧ i.size = s ∧ i.bytes = b := by
  cases hi : P.info? t with
  | none => rw [hi] at h; cases h
  | some i => rw [hi] at h; simp at h; exact ⟨i, rfl, h.1, h.2.1, h.2.2⟩
theorem make_strs (n : Nat) (hn : n ≤ 1048576) (w : World) :
    (Instr.makeSlice 30 (.int .i64 (n : Int)) (.int .i64 (n : Int))).run Tryd.prog w = .ok (.slice (some ⟨w.heap.size, 0, none⟩) n n) (w.alloc (.cells (blanks n) 9)) := by
  obtain ⟨i, h1, h2, h3, h4⟩ := info_parts str_info
  exact run_make_strs 30 9 i Tryd.underlying30 h1 h2 h3 h4 n (by omega) w

theorem cut_strs (a : Option Addr) (n c lo hi : Nat) (h1 : lo ≤ hi) (h2 : hi ≤ c) (w : World) :
    (Instr.slice 30 (.slice a n c) (some (.int .i64 (lo : Int))) (some (.int .i64 (hi : Int))) none).run Tryd.prog w = .ok (.slice (cutA a c lo) (hi - lo) (c - lo)) w := by
  obtain ⟨i, h3, h4, h5, h6⟩ := info_parts str_info
  exact run_cut Tryd.underlying30 h3 h5 a n c lo hi h1 h2 w

theorem app_strs {w : World} {ops : Array Oper} {rest : List Oper} {o : Oper} {a : Act} {Q : Exit → Act → World → Prop} (s x : Operand) (base : Nat) (v : Value) (l : List ByteArray) (hown : OwnV w base v l) (A : Option Addr) (m c : Nat) (r : List ByteArray) (hr : Strs w A m r)
    (hbound : l.length + m ≤ 4294967296) (hbase : base ≤ w.heap.size) (hgd : Region.wanted o (yielded ops a.tmps) = true) (ho : o.op = .call { callee := .builtin .append, args := #[s, x], argTypes := #[30, 30] }) (hs : a.eval s = v) (hx : a.eval x = .slice A m c)
    (h : ∀ v' w', OwnV w' base v' (l ++ r) → w.grownBy w' v.ownBlock → (v'.ownBlock = v.ownBlock ∨ v'.ownBlock = some w.heap.size) → wpList Tryd.prog ops Q rest (a.put o.dst v') w') : wpList Tryd.prog ops Q (o :: rest) a w := by
  obtain ⟨i, h1, h2, h3, h4⟩ := info_parts str_info
  exact wpList_app Tryd.underlying30 h1 h2 h3 h4 s x base v l hown A m c r hr hbound hbase hgd ho hs hx h

set_option maxHeartbeats 400000 in
theorem szStringS_any (a : Option Addr) (n c : Nat) (l : List ByteArray) (left : Int) (w : World) (hl : Strs w a n l) (h0 : 0 ≤ left) (h1 : left ≤ 1048576) :
    Calls Tryd.prog 12 #[.slice a n c, .int .i64 left] w fun e w' => e = .returned (.int .i64 (szS l left)) ∧ w = w' := by
  have hlim := hl.lim
  unfold maxLen at hlim
  have HL := Lib.hid hl.len
  by_cases hn : left < n
  · have hf := Lib.hid (show szS l left = -1 from if_pos (by rw [HL.out]; omega))
    go_enter Tryd.func12, Tryd.ntmps12
    go_wp2
    go_ret
    exact ⟨ret_int hf.out.symm, rfl⟩
  · go_enter Tryd.func12, Tryd.ntmps12
    go_wp2
    go_loop [1, 5] (fun q i => ∃ k : Nat, ∃ r : Int, i = .int .i64 k ∧ q = .int .i64 r ∧ k ≤ n ∧ 0 ≤ r ∧ r ≤ 1048576 ∧ Hid (r + n + total (l.take k) = left)) (fun _ i => n - (intOf i).toNat)
    case atStart => exact ⟨0, left - n, rfl, rfl, by omega, by omega, by omega, show left - n + n + ((total (l.take 0) : Nat) : Int) = left by simp [total]⟩
    case round =>
      obtain ⟨k, r, rfl, rfl, hk, hr0, hr1, H⟩ := hrel
      by_cases hlt : k < n
      · obtain ⟨b, off, s, rfl, hs, hsz, hc⟩ := hl.at_ hlt
        have HS := Lib.hid hs
        clear hs
        unfold maxLen at hsz
        by_cases hq : r < s.size
        · have hf := Lib.hid (show szS l left = -1 from if_pos (by
            have h1 := total_take_succ HS.out; have h2 := total_take_le l (k + 1); have h3 := H.out; rw [HL.out]; omega))
          go_wp2
          go_ret
          exact ⟨ret_int hf.out.symm, rfl⟩
        · have h1 := Lib.hid (total_take_succ HS.out)
          go_wp2
          go_round
          case rel => exact ⟨k + 1, r - s.size, by go_num, rfl, by omega, by omega, by omega, show _ = _ by have h1 := h1.out; have h3 := H.out; omega⟩
          case measure => simp [intOf]; omega
      · have hf := Lib.hid (show szS l left = r by
          have h3 := H.out
          have h4 : l.take k = l := List.take_of_length_le (by rw [HL.out]; omega)
          rw [h4] at h3
          unfold szS
          rw [if_neg (by rw [HL.out]; omega), HL.out]
          omega)
        go_wp2
        go_ret
        exact ⟨ret_int hf.out.symm, rfl⟩

set_option maxHeartbeats 400000 in
theorem toStringS_any (a : Option Addr) (n c : Nat) (l : List ByteArray) (w : World) (hl : Strs w a n l) (hn : n ≤ 1048576) :
    Calls Tryd.prog 15 #[.slice a n c] w fun e w' => e = .returned (.slice (some ⟨w.heap.size, 0, none⟩) n n) ∧ OwnV w' w.heap.size (.slice (some ⟨w.heap.size, 0, none⟩) n n) l ∧ Below w.heap.size w w' := by
  have HL := Lib.hid hl.len
  have hsm := Lib.hid hl.small
  have hmk := make_strs n hn
  go_enter Tryd.func15, Tryd.ntmps15
  go_wp2
  go_loopw [4] (fun i w' => ∃ k : Nat, i = .int .i64 k ∧ k ≤ n ∧ Own w' w.heap.size (fill l k) ∧ Below w.heap.size w w') (fun i _ => n - (intOf i).toNat)
  case atStart =>
    refine ⟨0, rfl, by omega, ?_, (Below.refl _ _).alloc (Nat.le_refl _) _⟩
    rw [fill_zero, HL.out]
    exact Own.new w _
  case round =>
    obtain ⟨k, rfl, hk, ho, hb⟩ := hrel
    by_cases hlt : k < n
    · obtain ⟨b, off, s, rfl, hs, hsz, hc⟩ := (hl.below hb).at_ hlt
      have hfz := ho.frozen (k := k)
      obtain ⟨t, ht⟩ : ∃ t, (fill l k)[k]? = some t := ⟨_, List.getElem?_eq_getElem (by rw [fill_len l (by rw [HL.out]; omega), HL.out]; exact hlt)⟩
      have hcg := ho.cell ht
      have HS := Lib.hid hs
      clear hs ht
      go_wp2
      go_roundw
      case rel => exact ⟨k + 1, by go_num, by omega, by rw [← fill_set HS.out]; exact ho.set_ _ _, hb.setCell (Nat.le_refl _) _⟩
      case measure => simp [intOf]; omega
    · have hf := Lib.hid (fill_all l (k := k) (by rw [HL.out]; omega))
      go_wp2
      go_ret
      refine ⟨rfl, ?_, hb⟩
      rw [hf.out] at ho
      have h1 := ho.ownV (Nat.le_refl _) (by rw [HL.out]; unfold maxLen; omega) hsm.out
      rwa [HL.out] at h1

theorem eq_step {l r : List ByteArray} {k : Nat} {s t : ByteArray} (H : ∀ j s t, j < k → l[j]? = some s → r[j]? = some t → s = t) (hs : l[k]? = some s) (ht : r[k]? = some t) (h : s = t) :
    ∀ j s t, j < k + 1 → l[j]? = some s → r[j]? = some t → s = t := by
  intro j s' t' hj hs' ht'
  by_cases e : j = k
  · subst e; rw [hs] at hs'; rw [ht] at ht'; injection hs' with hs'; injection ht' with ht'; rw [← hs', ← ht', h]
  · exact H j s' t' (by omega) hs' ht'

set_option maxHeartbeats 400000 in
theorem eqStringS_any (a b : Option Addr) (n m c d : Nat) (l r : List ByteArray) (w : World) (hl : Strs w a n l) (hr : Strs w b m r) :
    Calls Tryd.prog 18 #[.slice a n c, .slice b m d] w fun e w' => e = .returned (.bool (eqT l r)) ∧ Drawn w w' := by
  have HL := Lib.hid hl.len
  have HR := Lib.hid hr.len
  have hlim := hl.lim
  unfold maxLen at hlim
  by_cases hnm : n = m
  · subst hnm
    have hq : ((n : Int) != (n : Int)) = false := by simp
    go_enter Tryd.func18, Tryd.ntmps18
    go_wp2
    go_loopw [5] (fun i w' => ∃ k : Nat, i = .int .i64 k ∧ k ≤ n ∧ Hid (∀ j s t, j < k → l[j]? = some s → r[j]? = some t → s = t) ∧ Drawn w w') (fun i _ => n - (intOf i).toNat)
    case atStart => exact ⟨0, rfl, by omega, fun j s t h => by omega, Drawn.refl _⟩
    case round =>
      obtain ⟨k, rfl, hk, H, hb⟩ := hrel
      by_cases hlt : k < n
      · obtain ⟨b1, off1, s, rfl, hs, hsz, hc1⟩ := (hl.below hb.below).at_ hlt
        obtain ⟨b2, off2, t, rfl, ht, htz, hc2⟩ := (hr.below hb.below).at_ hlt
        have HS := Lib.hid hs
        have HT := Lib.hid ht
        clear hs ht
        have hi0 : (0 : Int) ≤ (k : Int) := by omega
        have hi1 : (k : Int) < (n : Int) := by omega
        by_cases hst : s = t
        · have hb2 : (s.toList == t.toList) = true := by rw [hst]; simp
          have HST := Lib.hid hst
          clear hst
          go_wp2
          go_quiet (fail)
          go_wp2
          go_roundw
          case rel => exact ⟨k + 1, by go_num, by omega, eq_step H.out HS.out HT.out HST.out, hb.more _⟩
          case measure => simp [intOf]; omega
        · have hb2 := beq_other hst
          have hf := Lib.hid (eqT_at HS.out HT.out hst)
          clear hst
          go_wp2
          go_quiet (fail)
          go_wp2
          go_ret
          exact ⟨ret_bool hf.out.symm, hb.more _⟩
      · have hf := Lib.hid (eqT_all (fun j s t h1 h2 => H.out j s t (by have := (List.getElem?_eq_some_iff.1 h1).1; have := HL.out; omega) h1 h2) (HL.out.trans HR.out.symm))
        go_wp2
        go_ret
        exact ⟨ret_bool hf.out.symm, hb⟩
  · have hq : ((n : Int) != (m : Int)) = true := by simp; omega
    have hf := Lib.hid (eqT_len (l := l) (r := r) (by rw [HL.out, HR.out]; exact hnm))
    go_enter Tryd.func18, Tryd.ntmps18
    go_wp2
    go_ret
    exact ⟨ret_bool hf.out.symm, Drawn.refl _⟩

theorem sz_neg (a : Option Addr) (n c : Nat) (l : List ByteArray) (left : Int) (w : World) (hl : Strs w a n l) (h0 : 0 ≤ left) (h1 : left ≤ 1048576) (h : left < l.length + total l) :
    Calls Tryd.prog 12 #[.slice a n c, .int .i64 left] w fun e w' => e = .returned (.int .i64 (-1)) ∧ w = w' := by
  have e : szS l left = -1 := if_pos h
  rw [← e]
  exact szStringS_any a n c l left w hl h0 h1

theorem conv_one (x : Int) (w : World) : (convert 56 9 (.slice (some ⟨w.heap.size, 0, none⟩) 1 1)).run Tryd.prog (w.alloc (.cells #[.int .u8 x] 5)) = .ok (.string ⟨#[UInt8.ofNat x.toNat]⟩) (w.alloc (.cells #[.int .u8 x] 5)) := by
  rw [run_convert_bytes_string _ _ _ 5 _ _ _ Tryd.underlying56 Tryd.underlying5 Tryd.underlying9]
  have h := run_loadCells_list (P := Tryd.prog) (w := w.alloc (.cells #[.int .u8 x] 5)) ⟨w.heap.size, 0, none⟩ [.int .u8 x] (cell_one_new w (.int .u8 x) 5)
  exact run_bytesToString _ _ 1 1 [x] (by simpa using h)

end Go.Proofs.YtnnaigoomipklaaDoor
