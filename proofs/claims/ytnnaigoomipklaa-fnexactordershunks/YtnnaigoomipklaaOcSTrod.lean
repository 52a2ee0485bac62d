/-
  An argument that is a slice of steps reads as a list of steps.
-/
import Derived.Test.YtnnaigoomipklaaOcSMath
import Derived.Test.YtnnaigoomipklaaOcURows
import Derived.Test.YtnnaigoomipklaaOcHMems
set_option linter.unusedSimpArgs false
set_option linter.unusedVariables false
namespace Go.Proofs.Ytnnaigoomipklaa
open Go.RowKit Go.ChangeShapes Go.WideShapes M

theorem has_int {d : D} (h : Has .int d) : ∃ x, d = .lit (.int .i64 x) ∧ i64ok x := by cases h with | int h => exact ⟨_, rfl, h⟩
theorem has_str {d : D} (h : Has .str d) : ∃ s, d = .lit (.string s) ∧ s.size ≤ maxLen := by cases h with | str h => exact ⟨_, rfl, h⟩
theorem has_sl {shs : List Sh} {d : D} (h : Has (.sl shs) d) : ∃ v t n cs, d = .sl v t shs.length n cs ∧ cs.length = n * shs.length ∧ ∀ (p : Nat) (e : D) (s : Sh), cs[p]? = some e → shs[p % shs.length]? = some s → Has s e := by
  cases h with | sl hl h => exact ⟨_, _, _, _, rfl, hl, h⟩
theorem has_strs {w : World} {d : D} (h : Has (.sl [.str]) d) (hr : d.rd w) : ∃ A m c l, d.val = .slice A m c ∧ m ≤ c ∧ Strs w A m l := by
  obtain ⟨v, t, n, cs, rfl, hl, hh⟩ := has_sl h
  obtain ⟨⟨A, cap, e, h1, h2, h3, h4⟩, _⟩ := hr
  have hone : ∀ (p : Nat) (e : D), cs[p]? = some e → ∃ s, e = .lit (.string s) ∧ s.size ≤ maxLen := fun p e hp => has_str (hh p e .str hp (by show ([Sh.str] : List Sh)[p % 1]? = some Sh.str; rw [Nat.mod_one]; rfl))
  let f : D → ByteArray := fun d => match d with | .lit (.string s) => s | _ => ByteArray.empty
  have hln : cs.length = n := by simpa using h3
  refine ⟨A, n, cap, cs.map f, e, h1, by simp [hln], h2, fun s hs => ?_, fun k s hs => ?_⟩
  · obtain ⟨d, hd, rfl⟩ := List.mem_map.1 hs
    obtain ⟨p, hp⟩ := List.mem_iff_getElem?.1 hd
    obtain ⟨s, rfl, h5⟩ := hone p d hp
    exact h5
  · rw [List.getElem?_map] at hs
    obtain ⟨d, hd, rfl⟩ := Option.map_eq_some_iff.1 hs
    obtain ⟨s, rfl, h5⟩ := hone k d hd
    exact h4 k _ hd

theorem fit_strs : Fit Try.prog 22 (.sl [.str]) := .one Try.underlying22 (by kernel_rfl) (.str Try.underlying9)

end Go.Proofs.Ytnnaigoomipklaa
