/-
  An argument that is a slice of orders reads as a list of orders.
-/
import Derived.Test.YtnnaigoomipklaaOcOMem
import Derived.Test.YtnnaigoomipklaaOcSTrod
set_option linter.unusedSimpArgs false
set_option linter.unusedVariables false
namespace Go.Proofs.Ytnnaigoomipklaa
open Go.RowKit Go.ChangeShapes Go.WideShapes M

def shOrder : Sh := .sl [.int, .int, .int, .sl [.str]]
theorem ods_of_rd {w : World} {d : D} (h : Has shOrder d) (hr : d.rd w) : ∃ A n c l, d.val = .slice A n c ∧ n ≤ c ∧ Ods w A n l := by
  obtain ⟨v, t, n, cs, rfl, hl, hh⟩ := has_sl h
  obtain ⟨⟨A, cap, e, h1, h2, h3, h4⟩, hrd⟩ := hr
  simp only [List.length_cons, List.length_nil] at hl hh h3
  have at_ : ∀ k j, k < n → j < 4 → ∃ d, cs[k * 4 + j]? = some d ∧ d.rd w ∧ (∃ b off, A = some ⟨b, off, none⟩ ∧ w.cell? ⟨b, off + (k * 4 + j), none⟩ = some d.val) ∧ ∀ s, ([Sh.int, Sh.int, Sh.int, Sh.sl [Sh.str]] : List Sh)[j]? = some s → Has s d := by
    intro k j hk hj
    have hlt : k * 4 + j < cs.length := by omega
    have hd := List.getElem?_eq_getElem hlt
    exact ⟨_, hd, D.rdL_at hrd hd, h4 _ _ hd, fun s hs => hh _ _ s hd (by show ([Sh.int, Sh.int, Sh.int, Sh.sl [Sh.str]] : List Sh)[(k * 4 + j) % 4]? = some s; rw [show (k * 4 + j) % 4 = j by omega]; exact hs)⟩
  have hone : ∀ k, ∃ x : Od, k < n → ∃ b off A1 m c, A = some ⟨b, off, none⟩ ∧ w.cell? ⟨b, off + k * 4, none⟩ = some (.int .i64 x.kd) ∧ w.cell? ⟨b, off + k * 4 + 1, none⟩ = some (.int .i64 x.fr) ∧
      w.cell? ⟨b, off + k * 4 + 2, none⟩ = some (.int .i64 x.to_) ∧ w.cell? ⟨b, off + k * 4 + 3, none⟩ = some (.slice A1 m c) ∧ Strs w A1 m x.new ∧ m ≤ c ∧ OdOk x := by
    intro k
    by_cases hk : k < n
    · obtain ⟨d0, _, r0, ⟨b, off, rfl, e0⟩, t0⟩ := at_ k 0 hk (by omega)
      obtain ⟨d1, _, r1, ⟨b1, off1, q1, e1⟩, t1⟩ := at_ k 1 hk (by omega)
      obtain ⟨d2, _, r2, ⟨b2, off2, q2, e2⟩, t2⟩ := at_ k 2 hk (by omega)
      obtain ⟨d3, _, r3, ⟨b3, off3, q3, e3⟩, t3⟩ := at_ k 3 hk (by omega)
      injection q1 with q1; injection q1 with q1 q1'; subst q1 q1'
      injection q2 with q2; injection q2 with q2 q2'; subst q2 q2'
      injection q3 with q3; injection q3 with q3 q3'; subst q3 q3'
      obtain ⟨x0, rfl, i0⟩ := has_int (t0 _ rfl)
      obtain ⟨x1, rfl, i1⟩ := has_int (t1 _ rfl)
      obtain ⟨x2, rfl, i2⟩ := has_int (t2 _ rfl)
      obtain ⟨A1, m, c, l1, v1, hmc, s1⟩ := has_strs (t3 _ rfl) r3
      rw [v1] at e3
      exact ⟨⟨x0, x1, x2, l1⟩, fun _ => ⟨b, off, A1, m, c, rfl, e0, e1, e2, e3, s1, hmc, ⟨i0, i1, i2, s1.small⟩⟩⟩
    · exact ⟨⟨0, 0, 0, []⟩, fun h => absurd h hk⟩
  refine ⟨A, n, cap, (List.range n).map fun i => Classical.choose (hone i), e, h1, by simp, h2, fun k y hy => ?_⟩
  rw [List.getElem?_map] at hy
  have hk : k < n := by
    rcases Nat.lt_or_ge k n with h5 | h5
    · exact h5
    · rw [List.getElem?_eq_none (by simpa using h5)] at hy; cases hy
  rw [List.getElem?_range hk] at hy
  injection hy with hy
  subst hy
  exact Classical.choose_spec (hone k) hk

theorem fit_order : Fit Try.prog 38 shOrder := by
  refine .rows Try.underlying38 Try.underlying69 (by kernel_rfl) rfl (fun i f h => ?_) (fun i f s h hs => ?_)
  · match i, h with
    | 0, h => simp at h; subst h; exact ⟨rfl, by kernel_rfl⟩
    | 1, h => simp at h; subst h; exact ⟨rfl, by kernel_rfl⟩
    | 2, h => simp at h; subst h; exact ⟨rfl, by kernel_rfl⟩
    | 3, h => simp at h; subst h; exact ⟨rfl, by kernel_rfl⟩
    | i + 4, h => simp at h
  · match i, h, hs with
    | 0, h, hs => simp at h hs; subst h hs; exact .int Try.underlying3
    | 1, h, hs => simp at h hs; subst h hs; exact .int Try.underlying3
    | 2, h, hs => simp at h hs; subst h hs; exact .int Try.underlying3
    | 3, h, hs => simp at h hs; subst h hs; exact fit_strs
    | i + 4, h, hs => simp at h

theorem laws_ods {H : Type} {enc : TypeId × Value → H} {w : World} {base : Nat} {spare : Nat → Bool} {held : Bool} {a : Option Addr} {n c : Nat} {d : DataW H} {ps : List MemPlace}
    (h : DataW.Trod enc Try.prog w base spare held 38 (.slice a n c) d ps) : ∃ l, Ods w a n l := by
  obtain ⟨fuel, hf⟩ := h
  obtain ⟨e, he, hr, hh⟩ := rd_of_trod fit_order hf
  obtain ⟨A, m, c', l, hv, _, hs⟩ := ods_of_rd hh hr
  have h1 : Value.slice a n c = e.val := by simpa [Value.cells] using he
  rw [hv] at h1
  injection h1 with h1 h2 h3
  subst h1 h2
  exact ⟨l, hs⟩

end Go.Proofs.Ytnnaigoomipklaa
