/-
  TextOf, the program's and the model's, and its law.
-/
import Derived.Test.YtnnaigoomipklaaGreatDoorOgGood
import Derived.Test.YtnnaigoomipklaaGreatDoorOgMemT
import Derived.Test.YtnnaigoomipklaaGreatDoorOgShelf
set_option linter.unusedSimpArgs false
set_option linter.unusedVariables false
namespace Go.Proofs.YtnnaigoomipklaaGreatDoor
open Go.RowKit M

theorem join_cat (l : List ByteArray) : (⟨(Lib.join (l.map (·.data.toList)) (⟨#[]⟩ : ByteArray).data.toList).toArray⟩ : ByteArray) = cat l := by
  have h : ∀ L : List (List UInt8), Lib.join L [] = L.flatten := by
    intro L
    cases L with
    | nil => rfl
    | cons x r => rw [Lib.join_cons]; simp [Lib.joinTail]
  show (⟨(Lib.join (l.map (·.data.toList)) []).toArray⟩ : ByteArray) = _
  rw [h]
  rfl

set_option maxHeartbeats 400000 in
theorem Join_any (a : Option Addr) (n c : Nat) (l : List ByteArray) (w : World) (hl : Strs w a n l) (hc : n ≤ c) (ht : total l ≤ 1048576) (hn : n ≤ 1048576) :
    Calls Tryz.prog 119 #[.slice a n c, .string ⟨#[]⟩] w fun e w' => e = .returned (.string (cat l)) ∧ Below w.heap.size w w' := by
  by_cases h0 : n = 0
  · subst h0
    obtain rfl : l = [] := List.eq_nil_of_length_eq_zero hl.len
    refine (Tryz.strings_Join_none a c _ w).mono fun e w' ⟨h1, h2⟩ => ⟨h1, ?_⟩
    subst h2
    exact Below.refl _ _
  · obtain ⟨b, off, s, rfl, hs, hsz, hcell⟩ := hl.at_ (show 0 < n by omega)
    have hj := join_cat l
    have hlen : (Lib.join (l.map (·.data.toList)) (⟨#[]⟩ : ByteArray).data.toList).length = total l := by
      have h1 := cat_size l
      rw [← hj] at h1
      exact h1
    have := Tryz.strings_Join b off c l ⟨#[]⟩ w (fun j x hx => by
      obtain ⟨b', off', e, h⟩ := hl.cell j x hx
      injection e with e
      injection e with e1 e2
      subst e1 e2
      exact h) (cell_lt hcell) (by rw [hl.len]; omega) (by rw [hl.len]; exact hc) (by rw [hlen]; omega)
    rw [hl.len, hj] at this
    exact this

end Go.Proofs.YtnnaigoomipklaaGreatDoor
