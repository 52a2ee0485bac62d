/-
  BackHunks, the program's and the model's.
-/
import Derived.Test.YtnnaigoomipklaaOcHPatch
import Derived.Test.YtnnaigoomipklaaOcHApp
import Derived.Test.YtnnaigoomipklaaOcHBases
set_option linter.unusedSimpArgs false
set_option linter.unusedVariables false
namespace Go.Proofs.Ytnnaigoomipklaa
open Go.RowKit M

theorem OwnH.more {w : World} {base b2 : Nat} {v : Value} {l : List Hk} {vs : List Value} (h : OwnH w base v l vs) (hb : b2 ≤ base) : OwnH w b2 v l vs := by
  obtain ⟨xs, h1, h2⟩ := h.row
  refine ⟨h.len, ⟨xs, ⟨h1.1, ?_⟩, h2⟩, fun k x u hx hu => (h.news k x u hx hu).more hb, h.apart, h.apart2, h.ints⟩
  rcases h1.2 with h3 | ⟨g, cap, cur, h3, h4, h5⟩
  · exact .inl h3
  · exact .inr ⟨g, cap, cur, h3, by omega, h5⟩

end Go.Proofs.Ytnnaigoomipklaa
