/-
  Patch, the program's and the model's, and its law.
-/
import Derived.Test.YtnnaigoomipklaaOcHGoods
import Derived.Test.YtnnaigoomipklaaOcHBases
set_option linter.unusedSimpArgs false
set_option linter.unusedVariables false
namespace Go.Proofs.Ytnnaigoomipklaa
open Go.RowKit M

theorem cut_lo_strs (a : Option Addr) (n c lo : Nat) (h1 : lo ≤ n) (h2 : n ≤ c) (w : World) :
    (Instr.slice 22 (.slice a n c) (some (.int .i64 (lo : Int))) none none).run Try.prog w = .ok (.slice (cutA a c lo) (n - lo) (c - lo)) w := by
  obtain ⟨i, h3, h4, h5, h6⟩ := info_parts str_info
  exact run_cut_lo Try.underlying22 h3 h5 a n c lo h1 h2 w

end Go.Proofs.Ytnnaigoomipklaa
