/-
  An argument of any shape of ints, texts, bools and slices of structs of these reads as a datum.
-/
import Derived.Test.YtnimaadjmejmpaaDoorUMem
import Derived.Deep.Slices
import Derived.ChangeArms
set_option linter.unusedSimpArgs false
set_option linter.unusedVariables false
namespace Go.Proofs.YtnimaadjmejmpaaDoor
open Go.RowKit Go.ChangeShapes Go.WideShapes M

/-- The shape of a value of one cell: a slice tells the shapes of the fields of its elements. -/
inductive Sh where
  | int
  | str
  | bool
  | sl (fs : List Sh)

/-- A type has a shape. -/
inductive Fit (P : Program) : TypeId → Sh → Prop where
  | int {t : TypeId} (h : P.underlying t = some (.int .i64)) : Fit P t .int
  | str {t : TypeId} (h : P.underlying t = some .string) : Fit P t .str
  | bool {t : TypeId} (h : P.underlying t = some .bool) : Fit P t .bool
  | one {t e : TypeId} {s : Sh} (h : P.underlying t = some (.slice e)) (hc : P.cellsOf e = 1) (hs : Fit P e s) : Fit P t (.sl [s])
  | rows {t e : TypeId} {fs : Array Field} {shs : List Sh} (h : P.underlying t = some (.slice e)) (hu : P.underlying e = some (.struct fs)) (hc : P.cellsOf e = shs.length) (hn : fs.size = shs.length)
      (ho : ∀ (i : Nat) (f : Field), fs[i]? = some f → f.offset = i ∧ P.cellsOf f.type = 1) (hf : ∀ (i : Nat) (f : Field) (s : Sh), fs[i]? = some f → shs[i]? = some s → Fit P f.type s) : Fit P t (.sl shs)

/-- A datum has a shape. -/
inductive Has : Sh → D → Prop where
  | int {x : Int} (h : i64ok x) : Has .int (.lit (.int .i64 x))
  | str {s : ByteArray} (h : s.size ≤ maxLen) : Has .str (.lit (.string s))
  | bool {b : Bool} : Has .bool (.lit (.bool b))
  | sl {shs : List Sh} {v : Value} {t : TypeId} {n : Nat} {cs : List D} (hl : cs.length = n * shs.length) (h : ∀ (p : Nat) (d : D) (s : Sh), cs[p]? = some d → shs[p % shs.length]? = some s → Has s d) : Has (.sl shs) (.sl v t shs.length n cs)

theorem D.rdL_all {w : World} : ∀ {cs : List D}, (∀ d ∈ cs, d.rd w) → D.rdL w cs
  | [], _ => trivial
  | c :: r, h => ⟨h c (by simp), D.rdL_all (fun d hd => h d (by simp [hd]))⟩

theorem add_at {b off : Nat} (j : Nat) : (⟨b, off, none⟩ : Addr).add j = ⟨b, off + j, none⟩ := by unfold Addr.add; by_cases h0 : j = 0 <;> simp [h0]

/-- Cells in a row that read as data make a slice that does. -/
theorem slice_datum {w : World} {b off n sz cap : Nat} {t : TypeId} {shs : List Sh} (hs : shs.length = sz) (h1 : n ≤ cap) (h2 : n ≤ maxLen)
    (h : ∀ p, p < n * sz → ∃ d : D, w.cell? ⟨b, off + p, none⟩ = some d.val ∧ d.rd w ∧ ∀ s, shs[p % sz]? = some s → Has s d) :
    ∃ d : D, (.slice (some ⟨b, off, none⟩) n cap) = d.val ∧ d.rd w ∧ Has (.sl shs) d := by
  have hone : ∀ p, ∃ d : D, p < n * sz → w.cell? ⟨b, off + p, none⟩ = some d.val ∧ d.rd w ∧ ∀ s, shs[p % sz]? = some s → Has s d := by
    intro p
    by_cases hp : p < n * sz
    · obtain ⟨d, hd⟩ := h p hp
      exact ⟨d, fun _ => hd⟩
    · exact ⟨.lit (.bool false), fun e => absurd e hp⟩
  let g : Nat → D := fun p => Classical.choose (hone p)
  have hg : ∀ p, p < n * sz → w.cell? ⟨b, off + p, none⟩ = some (g p).val ∧ (g p).rd w ∧ ∀ s, shs[p % sz]? = some s → Has s (g p) := fun p hp => Classical.choose_spec (hone p) hp
  have hget : ∀ p d, ((List.range (n * sz)).map g)[p]? = some d → p < n * sz ∧ d = g p := by
    intro p d hd
    rw [List.getElem?_map] at hd
    rcases Nat.lt_or_ge p (n * sz) with h5 | h5
    · rw [List.getElem?_range h5] at hd
      injection hd with hd
      exact ⟨h5, hd.symm⟩
    · rw [List.getElem?_eq_none (by simpa using h5)] at hd; cases hd
  subst hs
  refine ⟨.sl (.slice (some ⟨b, off, none⟩) n cap) t shs.length n ((List.range (n * shs.length)).map g), rfl, ⟨⟨_, cap, rfl, h1, h2, by simp, fun j d hj => ?_⟩, D.rdL_all (fun d hd => ?_)⟩, .sl (by simp) (fun p d s hd hs => ?_)⟩
  · obtain ⟨hp, rfl⟩ := hget j d hj
    exact ⟨b, off, rfl, (hg j hp).1⟩
  · obtain ⟨p, hp⟩ := List.mem_iff_getElem?.1 hd
    obtain ⟨hp2, rfl⟩ := hget p d hp
    exact (hg p hp2).2.1
  · obtain ⟨hp, rfl⟩ := hget p d hd
    exact (hg p hp).2.2 s hs

theorem nil_datum (w : World) (t : TypeId) (shs : List Sh) : ∃ d : D, (.slice none 0 0) = d.val ∧ d.rd w ∧ Has (.sl shs) d :=
  ⟨.sl (.slice none 0 0) t shs.length 0 [], rfl, ⟨⟨none, 0, rfl, Nat.le_refl _, Nat.zero_le _, by simp, fun j d hj => by simp at hj⟩, trivial⟩, .sl (by simp) (fun p d s hd _ => by simp at hd)⟩

theorem rd_of_trod {H : Type} {enc : TypeId × Value → H} {P : Program} {w : World} {base : Nat} {spare : Nat → Bool} {held : Bool} {t : TypeId} {sh : Sh} (hf : Fit P t sh) :
    ∀ {fuel : Nat} {cells : List Value} {x : DataW H × List MemPlace}, DataW.trod enc P w base spare held fuel t cells = some x → ∃ d : D, cells = [d.val] ∧ d.rd w ∧ Has sh d := by
  induction hf with
  | int h =>
    intro fuel cells x hx
    obtain ⟨n, rfl, _, wf⟩ := DataW.trod_int h hx
    exact ⟨.lit (.int .i64 n), rfl, rfl, .int (int_range wf)⟩
  | str h =>
    intro fuel cells x hx
    obtain ⟨s, rfl, _, hs⟩ := DataW.trod_string h hx
    exact ⟨.lit (.string s), rfl, rfl, .str hs⟩
  | bool h =>
    intro fuel cells x hx
    obtain ⟨b, rfl, _⟩ := DataW.trod_bool h hx
    exact ⟨.lit (.bool b), rfl, rfl, .bool⟩
  | @one t e s h hc hs ih =>
    intro fuel cells x hx
    rcases Go.Deep.open_slice h hx with ⟨rfl, _⟩ | ⟨a, n, cap, m, nn, _, _, rfl, _, hl, hm, hmm, _, hi⟩
    · obtain ⟨d, e1, e2, e3⟩ := nil_datum w e [s]
      exact ⟨d, by rw [e1], e2, e3⟩
    · have hnm : n ≤ m := by rw [hmm]; split <;> omega
      obtain ⟨b, off, spot⟩ := a
      by_cases hn0 : n = 0
      · subst hn0
        exact ⟨.sl (.slice (some ⟨b, off, spot⟩) 0 cap) e 1 0 [], rfl, ⟨⟨_, cap, rfl, by omega, by omega, rfl, fun j d hj => by simp at hj⟩, trivial⟩, .sl (shs := [s]) rfl (fun p d s hd _ => by simp at hd)⟩
      · rw [hc] at hi
        have hsp : spot = none := by
          obtain ⟨cs', hcell, _⟩ := hi 0 (by omega)
          obtain ⟨_, hlen, hat⟩ := World.cells?_some hcell
          have h5 := hat 0 (by omega)
          rw [List.getElem?_eq_getElem (by omega)] at h5
          simpa [Addr.add] using World.cell?_spot h5
        subst hsp
        obtain ⟨d, e1, e2, e3⟩ := slice_datum (w := w) (b := b) (off := off) (n := n) (sz := 1) (cap := cap) (t := e) (shs := [s]) rfl hl (by omega) (fun p hp => by
          obtain ⟨cs', hcell, htr⟩ := hi p (by omega)
          obtain ⟨_, hlen, hat⟩ := World.cells?_some hcell
          obtain ⟨d, rfl, d2, d3⟩ := ih htr
          have h5 := hat 0 (by omega)
          rw [add_at, add_at] at h5
          refine ⟨d, by simpa using h5, d2, fun s' hs' => ?_⟩
          rw [Nat.mod_one] at hs'
          simp at hs'
          subst hs'
          exact d3)
        exact ⟨d, by rw [e1], e2, e3⟩
  | @rows t e fs shs h hu hc hn ho hf ih =>
    intro fuel cells x hx
    rcases Go.Deep.open_slice h hx with ⟨rfl, _⟩ | ⟨a, n, cap, m, nn, _, _, rfl, _, hl, hm, hmm, _, hi⟩
    · obtain ⟨d, e1, e2, e3⟩ := nil_datum w e shs
      exact ⟨d, by rw [e1], e2, e3⟩
    · have hnm : n ≤ m := by rw [hmm]; split <;> omega
      obtain ⟨b, off, spot⟩ := a
      by_cases hn0 : n * shs.length = 0
      · exact ⟨.sl (.slice (some ⟨b, off, spot⟩) n cap) e shs.length n [], rfl, ⟨⟨_, cap, rfl, hl, by omega, by simpa using hn0.symm, fun j d hj => by simp at hj⟩, trivial⟩, .sl (by simpa using hn0.symm) (fun p d s hd _ => by simp at hd)⟩
      · have hs0 : 0 < shs.length := Nat.pos_of_ne_zero (fun e => hn0 (by rw [e, Nat.mul_zero]))
        have hnn : 0 < n := Nat.pos_of_ne_zero (fun e => hn0 (by rw [e, Nat.zero_mul]))
        rw [hc] at hi
        have hsp : spot = none := by
          obtain ⟨cs', hcell, _⟩ := hi 0 (by omega)
          obtain ⟨_, hlen, hat⟩ := World.cells?_some hcell
          have h5 := hat 0 (by omega)
          rw [List.getElem?_eq_getElem (by omega)] at h5
          simpa [Addr.add] using World.cell?_spot h5
        subst hsp
        obtain ⟨d, e1, e2, e3⟩ := slice_datum (w := w) (b := b) (off := off) (n := n) (sz := shs.length) (cap := cap) (t := e) (shs := shs) rfl hl (by omega) (fun p hp => by
          have hdm := Nat.div_add_mod p shs.length
          have hj : p % shs.length < shs.length := Nat.mod_lt _ hs0
          have hpi : p / shs.length < n := Nat.div_lt_of_lt_mul (by rw [Nat.mul_comm]; exact hp)
          obtain ⟨cs', hcell, htr⟩ := hi (p / shs.length) (by omega)
          obtain ⟨_, hlen, hat⟩ := World.cells?_some hcell
          obtain ⟨xs, nf, _, _, _, hxl, hfld⟩ := DataW.trod_struct hu htr
          have hjf : p % shs.length < fs.size := by omega
          have hff : fs[p % shs.length]? = some fs[p % shs.length] := Array.getElem?_eq_getElem hjf
          have hss : shs[p % shs.length]? = some shs[p % shs.length] := List.getElem?_eq_getElem hj
          obtain ⟨o1, o2⟩ := ho _ _ hff
          have ht := hfld _ _ hff
          rw [o1, o2, List.getElem?_eq_getElem (show p % shs.length < xs.length by omega)] at ht
          obtain ⟨d, d1, d2, d3⟩ := ih _ _ _ hff hss ht
          have h5 := hat (p % shs.length) hj
          rw [add_at, add_at] at h5
          have hc5 : cs'[p % shs.length]? = some d.val := by
            have h6 := congrArg (fun l : List Value => l[0]?) d1
            simpa [List.getElem?_take, List.getElem?_drop] using h6
          refine ⟨d, ?_, d2, fun s' hs' => ?_⟩
          · rw [← hc5, ← h5]
            congr 2
            rw [Nat.add_assoc, Nat.mul_comm, hdm]
          · rw [hss] at hs'
            injection hs' with hs'
            subst hs'
            exact d3)
        exact ⟨d, by rw [e1], e2, e3⟩

end Go.Proofs.YtnimaadjmejmpaaDoor
