/-
  An argument that is a slice of hunks reads as a list of hunks.
-/
import Derived.Test.YtnnaigoomipklaaDoorOkHMems
import Derived.Deep.Slices
import Derived.Deep.Strs
set_option linter.unusedSimpArgs false
set_option linter.unusedVariables false
namespace Go.Proofs.YtnnaigoomipklaaDoor
open Go.RowKit Go.ChangeShapes Go.WideShapes M

theorem add_lit {b off : Nat} (j : Nat) : (⟨b, off, none⟩ : Addr).add j = ⟨b, off + j, none⟩ := by unfold Addr.add; by_cases h0 : j = 0 <;> simp [h0]

theorem le_of_trod {H : Type} {enc : TypeId × Value → H} {P : Program} {w : World} {base : Nat} {spare : Nat → Bool} {held : Bool} {t e : TypeId} {a : Option Addr} {n c : Nat} {fuel : Nat} {x : DataW H × List MemPlace}
    (ht : P.underlying t = some (.slice e)) (h : DataW.trod enc P w base spare held fuel t [.slice a n c] = some x) : n ≤ c := by
  rcases Go.Deep.open_slice ht h with ⟨hcs, _⟩ | ⟨x, len, cap, m, nn, D, Pl, hcs, _, hl, _⟩
  · injection hcs with hcs; injection hcs with _ h1 h2; omega
  · injection hcs with hcs; injection hcs with _ h1 h2; omega

theorem hks_of_trod {H : Type} {enc : TypeId × Value → H} {P : Program} {w : World} {base : Nat} {spare : Nat → Bool} {held : Bool} {t e s : TypeId} {f0 f1 f2 : Field} {a : Option Addr} {n c : Nat} {d : DataW H} {ps : List MemPlace}
    (ht : P.underlying t = some (.slice e)) (he : P.underlying e = some (.struct #[f0, f1, f2])) (hC : P.cellsOf e = 3) (o0 : f0.offset = 0) (o1 : f1.offset = 1) (o2 : f2.offset = 2)
    (k0 : P.cellsOf f0.type = 1) (k1 : P.cellsOf f1.type = 1) (k2 : P.cellsOf f2.type = 1) (h0 : P.underlying f0.type = some (.int .i64)) (h1 : P.underlying f1.type = some (.int .i64)) (h2 : P.underlying f2.type = some (.slice s))
    (hs : P.underlying s = some .string) (hc : P.cellsOf s = 1) (h : DataW.Trod enc P w base spare held t (.slice a n c) d ps) : ∃ l, Hks w a n l := by
  obtain ⟨fuel, hf⟩ := h
  rcases Go.Deep.open_slice ht hf with ⟨hcs, _⟩ | ⟨x, len, cap, m, nn, D, Pl, hcs, _, hl, hm, hmm, _, hi⟩
  · simp [Value.cells] at hcs
    obtain ⟨rfl, rfl, rfl⟩ := hcs
    exact ⟨[], Hks.nil_⟩
  · simp [Value.cells] at hcs
    obtain ⟨rfl, rfl, rfl⟩ := hcs
    have hnm : n ≤ m := by rw [hmm]; split <;> omega
    obtain ⟨b, off, spot⟩ := x
    rw [hC] at hi
    have hone : ∀ i, ∃ y : Hk, i < n → spot = none ∧ ∃ A q cc, w.cell? ⟨b, off + i * 3, none⟩ = some (.int .i64 y.at_) ∧ w.cell? ⟨b, off + i * 3 + 1, none⟩ = some (.int .i64 y.gone) ∧ w.cell? ⟨b, off + i * 3 + 2, none⟩ = some (.slice A q cc) ∧ Strs w A q y.new ∧ q ≤ cc ∧ i64ok y.at_ ∧ i64ok y.gone := by
      intro i
      by_cases hin : i < n
      · have hsp : spot = none := by
          obtain ⟨cs', hcell, htr⟩ := hi 0 (by omega)
          obtain ⟨_, hlen, hat⟩ := World.cells?_some hcell
          have h5 := hat 0 (by omega)
          rw [List.getElem?_eq_getElem (by omega)] at h5
          simpa [Addr.add] using World.cell?_spot h5
        subst hsp
        obtain ⟨cs', hcell, htr⟩ := hi i (by omega)
        obtain ⟨_, hlen, hat⟩ := World.cells?_some hcell
        obtain ⟨y0, y1, y2, nf, _, _, t0, t1, t2⟩ := Go.Deep.trod_struct3 he htr
        match cs', hlen with
        | [v0, v1, v2], _ =>
          rw [o0, k0] at t0
          rw [o1, k1] at t1
          rw [o2, k2] at t2
          obtain ⟨i0, e0, _, wf0⟩ := DataW.trod_int h0 t0
          obtain ⟨i1, e1, _, wf1⟩ := DataW.trod_int h1 t1
          simp at e0 e1
          subst e0 e1
          have t2' : DataW.trod enc P w base spare held nf f2.type [v2] = some y2 := t2
          have hv : ∃ A q cc, v2 = .slice A q cc := by
            rcases Go.Deep.open_slice h2 t2' with ⟨hcs, _⟩ | ⟨x, len, cap, m, nn, D, Pl, hcs, _⟩
            · injection hcs with hcs; exact ⟨_, _, _, hcs⟩
            · injection hcs with hcs; exact ⟨_, _, _, hcs⟩
          obtain ⟨A, q, cc, rfl⟩ := hv
          obtain ⟨ls, hls⟩ := strs_of_trod (d := y2.1) (ps := y2.2) (c := cc) h2 hs hc ⟨nf, t2'⟩
          have a0 := hat 0 (by omega)
          have a1 := hat 1 (by omega)
          have a2 := hat 2 (by omega)
          rw [add_lit, add_lit] at a0 a1 a2
          exact ⟨⟨i0, i1, ls⟩, fun _ => ⟨rfl, A, q, cc, by simpa using a0, by simpa using a1, by simpa using a2, hls, le_of_trod h2 t2', int_range wf0, int_range wf1⟩⟩
      · exact ⟨⟨0, 0, []⟩, fun h => absurd h hin⟩
    refine ⟨(List.range n).map fun i => Classical.choose (hone i), by simp, by omega, fun k y hy => ?_⟩
    rw [List.getElem?_map] at hy
    have hk : k < n := by
      rcases Nat.lt_or_ge k n with h5 | h5
      · exact h5
      · rw [List.getElem?_eq_none (by simpa using h5)] at hy; cases hy
    rw [List.getElem?_range hk] at hy
    injection hy with hy
    subst hy
    obtain ⟨hsp, A, q, cc, r⟩ := Classical.choose_spec (hone k) hk
    subst hsp
    exact ⟨b, off, A, q, cc, rfl, r⟩

theorem laws_hks {H : Type} {enc : TypeId × Value → H} {w : World} {base : Nat} {spare : Nat → Bool} {held : Bool} {a : Option Addr} {n c : Nat} {d : DataW H} {ps : List MemPlace}
    (h : DataW.Trod enc Tryd.prog w base spare held 31 (.slice a n c) d ps) : ∃ l, Hks w a n l :=
  hks_of_trod Tryd.underlying31 Tryd.underlying70 (by kernel_rfl) rfl rfl rfl (by kernel_rfl) (by kernel_rfl) (by kernel_rfl) Tryd.underlying3 Tryd.underlying3 Tryd.underlying30 Tryd.underlying9 (by kernel_rfl) h

end Go.Proofs.YtnnaigoomipklaaDoor
