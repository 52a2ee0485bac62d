/-
  BackHunks, the program's and the model's.
-/
import Derived.Test.YtkamenidgkjodaaDoorHPatch
import Derived.Test.YtkamenidgkjodaaDoorHApp
import Derived.Test.YtkamenidgkjodaaDoorHBases
set_option linter.unusedSimpArgs false
set_option linter.unusedVariables false
namespace Go.Proofs.YtkamenidgkjodaaDoor
open Go.RowKit M

theorem OwnH.more {w : World} {base b2 : Nat} {v : Value} {l : List Hk} {vs : List Value} (h : OwnH w base v l vs) (hb : b2 ≤ base) : OwnH w b2 v l vs := by
  obtain ⟨xs, h1, h2⟩ := h.row
  refine ⟨h.len, ⟨xs, ⟨h1.1, ?_⟩, h2⟩, fun k x u hx hu => (h.news k x u hx hu).more hb, h.apart, h.apart2, h.ints⟩
  rcases h1.2 with h3 | ⟨g, cap, cur, h3, h4, h5⟩
  · exact .inl h3
  · exact .inr ⟨g, cap, cur, h3, by omega, h5⟩
theorem oldOf_nat (l : List ByteArray) (a g : Nat) (new : List ByteArray) : oldOf l ⟨(a : Int), (g : Int), new⟩ = seg l a (a + g) := by
  unfold oldOf
  dsimp only
  rw [Int.toNat_natCast, show ((a : Int) + (g : Int)).toNat = a + g from by omega]

set_option maxHeartbeats 400000 in
theorem goneOf_any (a : Option Addr) (nl cl : Nat) (b off at' go hi : Nat) (w : World) (k0 : w.cell? ⟨b, off, none⟩ = some (.int .i64 (at' : Int))) (k1 : w.cell? ⟨b, off + 1, none⟩ = some (.int .i64 (go : Int))) (hhi : hi = at' + go) (h1 : hi ≤ nl) (h2 : nl ≤ cl) (h3 : nl ≤ 1048576) :
    Calls Tryd.prog 74 #[.slice a nl cl, .pointer (some ⟨b, off, none⟩)] w fun e w' => e = .returned (.slice (cutA a hi at') (hi - at') (hi - at')) ∧ Drawn w w' := by
  have hwe : IntKind.i64.wrap ((at' : Int) + (go : Int)) = (hi : Int) := by rw [IntKind.wrap_i64]; omega
  have hcut := cut3_strs a nl cl at' hi (by omega) (by omega)
  clear hhi
  go_enter Tryd.func74, Tryd.ntmps74
  go_wp2
  go_quiet (fail)
  go_wp2
  go_ret
  exact ⟨rfl, (Drawn.refl _).more _⟩

end Go.Proofs.YtkamenidgkjodaaDoor
