/-
  BackHunks, the program's and the model's.
-/
import Derived.Test.YtkamenidgkjodaaHPatch
import Derived.Test.YtkamenidgkjodaaHApp
import Derived.Test.YtkamenidgkjodaaHBases
set_option linter.unusedSimpArgs false
set_option linter.unusedVariables false
namespace Go.Proofs.Ytkamenidgkjodaa
open Go.RowKit M

theorem OwnH.more {w : World} {base b2 : Nat} {v : Value} {l : List Hk} {vs : List Value} (h : OwnH w base v l vs) (hb : b2 ≤ base) : OwnH w b2 v l vs := by
  obtain ⟨xs, h1, h2⟩ := h.row
  refine ⟨h.len, ⟨xs, ⟨h1.1, ?_⟩, h2⟩, fun k x u hx hu => (h.news k x u hx hu).more hb, h.apart, h.apart2, h.ints⟩
  rcases h1.2 with h3 | ⟨g, cap, cur, h3, h4, h5⟩
  · exact .inl h3
  · exact .inr ⟨g, cap, cur, h3, by omega, h5⟩
theorem oldOf_nat (l : List ByteArray) (a g : Nat) (new : List ByteArray) : oldOf l ⟨(a : Int), (g : Int), new⟩ = seg l a (a + g) := by
  unfold oldOf
  dsimp only
  rw [Int.toNat_natCast, show ((a : Int) + (g : Int)).toNat = a + g from by omega]

end Go.Proofs.Ytkamenidgkjodaa
