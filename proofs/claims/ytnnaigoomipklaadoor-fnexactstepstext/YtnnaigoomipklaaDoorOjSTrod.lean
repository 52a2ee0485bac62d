/-
  An argument that is a slice of steps reads as a list of steps.
-/
import Derived.Test.YtnnaigoomipklaaDoorOjSMem
import Derived.Test.YtnnaigoomipklaaDoorOjURows
set_option linter.unusedSimpArgs false
set_option linter.unusedVariables false
namespace Go.Proofs.YtnnaigoomipklaaDoor
open Go.RowKit Go.ChangeShapes Go.WideShapes M

theorem has_int {d : D} (h : Has .int d) : ∃ x, d = .lit (.int .i64 x) ∧ i64ok x := by cases h with | int h => exact ⟨_, rfl, h⟩
theorem has_str {d : D} (h : Has .str d) : ∃ s, d = .lit (.string s) ∧ s.size ≤ maxLen := by cases h with | str h => exact ⟨_, rfl, h⟩
theorem has_sl {shs : List Sh} {d : D} (h : Has (.sl shs) d) : ∃ v t n cs, d = .sl v t shs.length n cs ∧ cs.length = n * shs.length ∧ ∀ (p : Nat) (e : D) (s : Sh), cs[p]? = some e → shs[p % shs.length]? = some s → Has s e := by
  cases h with | sl hl h => exact ⟨_, _, _, _, rfl, hl, h⟩
theorem has_strs {w : World} {d : D} (h : Has (.sl [.str]) d) (hr : d.rd w) : ∃ A m c l, d.val = .slice A m c ∧ m ≤ c ∧ Strs w A m l := by
  obtain ⟨v, t, n, cs, rfl, hl, hh⟩ := has_sl h
  obtain ⟨⟨A, cap, e, h1, h2, h3, h4⟩, _⟩ := hr
  have hone : ∀ (p : Nat) (e : D), cs[p]? = some e → ∃ s, e = .lit (.string s) ∧ s.size ≤ maxLen := fun p e hp => has_str (hh p e .str hp (by show ([Sh.str] : List Sh)[p % 1]? = some Sh.str; rw [Nat.mod_one]; rfl))
  let f : D → ByteArray := fun d => match d with | .lit (.string s) => s | _ => ByteArray.empty
  have hln : cs.length = n := by simpa using h3
  refine ⟨A, n, cap, cs.map f, e, h1, by simp [hln], h2, fun s hs => ?_, fun k s hs => ?_⟩
  · obtain ⟨d, hd, rfl⟩ := List.mem_map.1 hs
    obtain ⟨p, hp⟩ := List.mem_iff_getElem?.1 hd
    obtain ⟨s, rfl, h5⟩ := hone p d hp
    exact h5
  · rw [List.getElem?_map] at hs
    obtain ⟨d, hd, rfl⟩ := Option.map_eq_some_iff.1 hs
    obtain ⟨s, rfl, h5⟩ := hone k d hd
    exact h4 k _ hd

def shStep : Sh := .sl [.int, .int, .sl [.str], .int, .int, .sl [.str]]
theorem sps_of_rd {w : World} {d : D} (h : Has shStep d) (hr : d.rd w) : ∃ A n c l, d.val = .slice A n c ∧ n ≤ c ∧ Sps w A n l := by
  obtain ⟨v, t, n, cs, rfl, hl, hh⟩ := has_sl h
  obtain ⟨⟨A, cap, e, h1, h2, h3, h4⟩, hrd⟩ := hr
  simp only [List.length_cons, List.length_nil] at hl hh h3
  have at_ : ∀ k j, k < n → j < 6 → ∃ d, cs[k * 6 + j]? = some d ∧ d.rd w ∧ (∃ b off, A = some ⟨b, off, none⟩ ∧ w.cell? ⟨b, off + (k * 6 + j), none⟩ = some d.val) ∧ ∀ s, ([Sh.int, Sh.int, Sh.sl [Sh.str], Sh.int, Sh.int, Sh.sl [Sh.str]] : List Sh)[j]? = some s → Has s d := by
    intro k j hk hj
    have hlt : k * 6 + j < cs.length := by omega
    have hd := List.getElem?_eq_getElem hlt
    exact ⟨_, hd, D.rdL_at hrd hd, h4 _ _ hd, fun s hs => hh _ _ s hd (by show ([Sh.int, Sh.int, Sh.sl [Sh.str], Sh.int, Sh.int, Sh.sl [Sh.str]] : List Sh)[(k * 6 + j) % 6]? = some s; rw [show (k * 6 + j) % 6 = j by omega]; exact hs)⟩
  have hone : ∀ k, ∃ x : Sp, k < n → ∃ b off A1 m c B m2 c2, A = some ⟨b, off, none⟩ ∧ w.cell? ⟨b, off + k * 6, none⟩ = some (.int .i64 x.fr) ∧ w.cell? ⟨b, off + k * 6 + 1, none⟩ = some (.int .i64 x.to_) ∧
      w.cell? ⟨b, off + k * 6 + 2, none⟩ = some (.slice A1 m c) ∧ w.cell? ⟨b, off + k * 6 + 3, none⟩ = some (.int .i64 x.at_) ∧ w.cell? ⟨b, off + k * 6 + 4, none⟩ = some (.int .i64 x.en) ∧ w.cell? ⟨b, off + k * 6 + 5, none⟩ = some (.slice B m2 c2) ∧
      Strs w A1 m x.old ∧ m ≤ c ∧ Strs w B m2 x.new ∧ m2 ≤ c2 ∧ SpOk x := by
    intro k
    by_cases hk : k < n
    · obtain ⟨d0, _, r0, ⟨b, off, rfl, e0⟩, t0⟩ := at_ k 0 hk (by omega)
      obtain ⟨d1, _, r1, ⟨b1, off1, q1, e1⟩, t1⟩ := at_ k 1 hk (by omega)
      obtain ⟨d2, _, r2, ⟨b2, off2, q2, e2⟩, t2⟩ := at_ k 2 hk (by omega)
      obtain ⟨d3, _, r3, ⟨b3, off3, q3, e3⟩, t3⟩ := at_ k 3 hk (by omega)
      obtain ⟨d4, _, r4, ⟨b4, off4, q4, e4⟩, t4⟩ := at_ k 4 hk (by omega)
      obtain ⟨d5, _, r5, ⟨b5, off5, q5, e5⟩, t5⟩ := at_ k 5 hk (by omega)
      injection q1 with q1; injection q1 with q1 q1'; subst q1 q1'
      injection q2 with q2; injection q2 with q2 q2'; subst q2 q2'
      injection q3 with q3; injection q3 with q3 q3'; subst q3 q3'
      injection q4 with q4; injection q4 with q4 q4'; subst q4 q4'
      injection q5 with q5; injection q5 with q5 q5'; subst q5 q5'
      obtain ⟨x0, rfl, i0⟩ := has_int (t0 _ rfl)
      obtain ⟨x1, rfl, i1⟩ := has_int (t1 _ rfl)
      obtain ⟨x3, rfl, i3⟩ := has_int (t3 _ rfl)
      obtain ⟨x4, rfl, i4⟩ := has_int (t4 _ rfl)
      obtain ⟨A1, m, c, l1, v1, hmc, s1⟩ := has_strs (t2 _ rfl) r2
      obtain ⟨B, m2, c2, l2, v2, hmc2, s2⟩ := has_strs (t5 _ rfl) r5
      rw [v1] at e2
      rw [v2] at e5
      exact ⟨⟨x0, x1, l1, x3, x4, l2⟩, fun _ => ⟨b, off, A1, m, c, B, m2, c2, rfl, e0, e1, e2, e3, e4, e5, s1, hmc, s2, hmc2, ⟨i0, i1, i3, i4, s1.small, s2.small⟩⟩⟩
    · exact ⟨⟨0, 0, [], 0, 0, []⟩, fun h => absurd h hk⟩
  refine ⟨A, n, cap, (List.range n).map fun i => Classical.choose (hone i), e, h1, by simp, h2, fun k y hy => ?_⟩
  rw [List.getElem?_map] at hy
  have hk : k < n := by
    rcases Nat.lt_or_ge k n with h5 | h5
    · exact h5
    · rw [List.getElem?_eq_none (by simpa using h5)] at hy; cases hy
  rw [List.getElem?_range hk] at hy
  injection hy with hy
  subst hy
  exact Classical.choose_spec (hone k) hk

theorem fit_strs : Fit Tryd.prog 30 (.sl [.str]) := .one Tryd.underlying30 (by kernel_rfl) (.str Tryd.underlying9)
theorem fit_step : Fit Tryd.prog 41 shStep := by
  refine .rows Tryd.underlying41 Tryd.underlying80 (by kernel_rfl) rfl (fun i f h => ?_) (fun i f s h hs => ?_)
  · match i, h with
    | 0, h => simp at h; subst h; exact ⟨rfl, by kernel_rfl⟩
    | 1, h => simp at h; subst h; exact ⟨rfl, by kernel_rfl⟩
    | 2, h => simp at h; subst h; exact ⟨rfl, by kernel_rfl⟩
    | 3, h => simp at h; subst h; exact ⟨rfl, by kernel_rfl⟩
    | 4, h => simp at h; subst h; exact ⟨rfl, by kernel_rfl⟩
    | 5, h => simp at h; subst h; exact ⟨rfl, by kernel_rfl⟩
    | i + 6, h => simp at h
  · match i, h, hs with
    | 0, h, hs => simp at h hs; subst h hs; exact .int Tryd.underlying3
    | 1, h, hs => simp at h hs; subst h hs; exact .int Tryd.underlying3
    | 2, h, hs => simp at h hs; subst h hs; exact fit_strs
    | 3, h, hs => simp at h hs; subst h hs; exact .int Tryd.underlying3
    | 4, h, hs => simp at h hs; subst h hs; exact .int Tryd.underlying3
    | 5, h, hs => simp at h hs; subst h hs; exact fit_strs
    | i + 6, h, hs => simp at h

theorem laws_sps {H : Type} {enc : TypeId × Value → H} {w : World} {base : Nat} {spare : Nat → Bool} {held : Bool} {a : Option Addr} {n c : Nat} {d : DataW H} {ps : List MemPlace}
    (h : DataW.Trod enc Tryd.prog w base spare held 41 (.slice a n c) d ps) : ∃ l, Sps w a n l := by
  obtain ⟨fuel, hf⟩ := h
  obtain ⟨e, he, hr, hh⟩ := rd_of_trod fit_step hf
  obtain ⟨A, m, c', l, hv, _, hs⟩ := sps_of_rd hh hr
  have h1 : Value.slice a n c = e.val := by simpa [Value.cells] using he
  rw [hv] at h1
  injection h1 with h1 h2 h3
  subst h1 h2
  exact ⟨l, hs⟩

end Go.Proofs.YtnnaigoomipklaaDoor
