/-
  An argument that is a slice of groups reads as a list of groups; one that is a group reads as a group.
-/
import Derived.Test.YtkamenidgkjodaaGMem
import Derived.Test.YtkamenidgkjodaaURows
import Derived.Deep.Strs
set_option linter.unusedSimpArgs false
set_option linter.unusedVariables false
namespace Go.Proofs.Ytkamenidgkjodaa
open Go.RowKit Go.ChangeShapes Go.WideShapes M

theorem hasI {d : D} (h : Has .int d) : ∃ x, d = .lit (.int .i64 x) ∧ i64ok x := by cases h with | int h => exact ⟨_, rfl, h⟩
theorem hasS {d : D} (h : Has .str d) : ∃ s, d = .lit (.string s) ∧ s.size ≤ maxLen := by cases h with | str h => exact ⟨_, rfl, h⟩
theorem hasL {shs : List Sh} {d : D} (h : Has (.sl shs) d) : ∃ v t n cs, d = .sl v t shs.length n cs ∧ cs.length = n * shs.length ∧ ∀ (p : Nat) (e : D) (s : Sh), cs[p]? = some e → shs[p % shs.length]? = some s → Has s e := by
  cases h with | sl hl h => exact ⟨_, _, _, _, rfl, hl, h⟩

def shRow : Sh := .sl [.int, .str]
theorem rws_of_rd {w : World} {d : D} (h : Has shRow d) (hr : d.rd w) : ∃ A n c l, d.val = .slice A n c ∧ n ≤ c ∧ Rws w A n l := by
  obtain ⟨v, t, n, cs, rfl, hl, hh⟩ := hasL h
  obtain ⟨⟨A, cap, e, h1, h2, h3, h4⟩, hrd⟩ := hr
  simp only [List.length_cons, List.length_nil] at hl hh h3
  have at_ : ∀ k j, k < n → j < 2 → ∃ d, cs[k * 2 + j]? = some d ∧ (∃ b off, A = some ⟨b, off, none⟩ ∧ w.cell? ⟨b, off + (k * 2 + j), none⟩ = some d.val) ∧ ∀ s, ([Sh.int, Sh.str] : List Sh)[j]? = some s → Has s d := by
    intro k j hk hj
    have hlt : k * 2 + j < cs.length := by omega
    have hd := List.getElem?_eq_getElem hlt
    exact ⟨_, hd, h4 _ _ hd, fun s hs => hh _ _ s hd (by show ([Sh.int, Sh.str] : List Sh)[(k * 2 + j) % 2]? = some s; rw [show (k * 2 + j) % 2 = j by omega]; exact hs)⟩
  have hone : ∀ k, ∃ x : Rw, k < n → (∃ b off, A = some ⟨b, off, none⟩ ∧ w.cell? ⟨b, off + k * 2, none⟩ = some (.int .i64 x.kind) ∧ w.cell? ⟨b, off + k * 2 + 1, none⟩ = some (.string x.line)) ∧ RwOk x := by
    intro k
    by_cases hk : k < n
    · obtain ⟨d0, _, ⟨b, off, rfl, e0⟩, t0⟩ := at_ k 0 hk (by omega)
      obtain ⟨d1, _, ⟨b1, off1, q1, e1⟩, t1⟩ := at_ k 1 hk (by omega)
      injection q1 with q1; injection q1 with q1 q1'; subst q1 q1'
      obtain ⟨x0, rfl, i0⟩ := hasI (t0 _ rfl)
      obtain ⟨x1, rfl, i1⟩ := hasS (t1 _ rfl)
      exact ⟨⟨x0, x1⟩, fun _ => ⟨⟨b, off, rfl, e0, e1⟩, ⟨i0, i1⟩⟩⟩
    · exact ⟨⟨0, ByteArray.empty⟩, fun h => absurd h hk⟩
  have get : ∀ k y, ((List.range n).map fun i => Classical.choose (hone i))[k]? = some y → k < n ∧ Classical.choose (hone k) = y := fun k y hy => by
    rw [List.getElem?_map] at hy
    have hk : k < n := by
      rcases Nat.lt_or_ge k n with h5 | h5
      · exact h5
      · rw [List.getElem?_eq_none (by simpa using h5)] at hy; cases hy
    rw [List.getElem?_range hk] at hy
    injection hy with hy
    exact ⟨hk, hy⟩
  refine ⟨A, n, cap, (List.range n).map fun i => Classical.choose (hone i), e, h1, by simp, h2, fun y hy => ?_, fun k y hy => ?_⟩
  · obtain ⟨k, hk0⟩ := List.mem_iff_getElem?.1 hy
    obtain ⟨hk, rfl⟩ := get k y hk0
    exact (Classical.choose_spec (hone k) hk).2
  · obtain ⟨hk, rfl⟩ := get k y hy
    exact (Classical.choose_spec (hone k) hk).1

def shGroup : Sh := .sl [.int, .int, shRow]
theorem gps_of_rd {w : World} {d : D} (h : Has shGroup d) (hr : d.rd w) : ∃ A n c l, d.val = .slice A n c ∧ n ≤ c ∧ Gps w A n l := by
  obtain ⟨v, t, n, cs, rfl, hl, hh⟩ := hasL h
  obtain ⟨⟨A, cap, e, h1, h2, h3, h4⟩, hrd⟩ := hr
  simp only [List.length_cons, List.length_nil] at hl hh h3
  have at_ : ∀ k j, k < n → j < 3 → ∃ d, cs[k * 3 + j]? = some d ∧ d.rd w ∧ (∃ b off, A = some ⟨b, off, none⟩ ∧ w.cell? ⟨b, off + (k * 3 + j), none⟩ = some d.val) ∧ ∀ s, ([Sh.int, Sh.int, shRow] : List Sh)[j]? = some s → Has s d := by
    intro k j hk hj
    have hlt : k * 3 + j < cs.length := by omega
    have hd := List.getElem?_eq_getElem hlt
    exact ⟨_, hd, D.rdL_at hrd hd, h4 _ _ hd, fun s hs => hh _ _ s hd (by show ([Sh.int, Sh.int, shRow] : List Sh)[(k * 3 + j) % 3]? = some s; rw [show (k * 3 + j) % 3 = j by omega]; exact hs)⟩
  have hone : ∀ k, ∃ x : Gp, k < n → ∃ b off A1 m c, A = some ⟨b, off, none⟩ ∧ w.cell? ⟨b, off + k * 3, none⟩ = some (.int .i64 x.at_) ∧ w.cell? ⟨b, off + k * 3 + 1, none⟩ = some (.int .i64 x.to_) ∧ w.cell? ⟨b, off + k * 3 + 2, none⟩ = some (.slice A1 m c) ∧ Rws w A1 m x.rows ∧ m ≤ c ∧ GpOk x := by
    intro k
    by_cases hk : k < n
    · obtain ⟨d0, _, r0, ⟨b, off, rfl, e0⟩, t0⟩ := at_ k 0 hk (by omega)
      obtain ⟨d1, _, r1, ⟨b1, off1, q1, e1⟩, t1⟩ := at_ k 1 hk (by omega)
      obtain ⟨d2, _, r2, ⟨b2, off2, q2, e2⟩, t2⟩ := at_ k 2 hk (by omega)
      injection q1 with q1; injection q1 with q1 q1'; subst q1 q1'
      injection q2 with q2; injection q2 with q2 q2'; subst q2 q2'
      obtain ⟨x0, rfl, i0⟩ := hasI (t0 _ rfl)
      obtain ⟨x1, rfl, i1⟩ := hasI (t1 _ rfl)
      obtain ⟨A1, m, c, l1, v1, hmc, s1⟩ := rws_of_rd (t2 _ rfl) r2
      rw [v1] at e2
      exact ⟨⟨x0, x1, l1⟩, fun _ => ⟨b, off, A1, m, c, rfl, e0, e1, e2, s1, hmc, ⟨i0, i1, s1.ok⟩⟩⟩
    · exact ⟨⟨0, 0, []⟩, fun h => absurd h hk⟩
  refine ⟨A, n, cap, (List.range n).map fun i => Classical.choose (hone i), e, h1, by simp, h2, fun k y hy => ?_⟩
  rw [List.getElem?_map] at hy
  have hk : k < n := by
    rcases Nat.lt_or_ge k n with h5 | h5
    · exact h5
    · rw [List.getElem?_eq_none (by simpa using h5)] at hy; cases hy
  rw [List.getElem?_range hk] at hy
  injection hy with hy
  subst hy
  exact Classical.choose_spec (hone k) hk

theorem fit_rows : Fit Try.prog 36 shRow := by
  refine .rows Try.underlying36 Try.underlying74 (by kernel_rfl) rfl (fun i f h => ?_) (fun i f s h hs => ?_)
  · match i, h with
    | 0, h => simp at h; subst h; exact ⟨rfl, by kernel_rfl⟩
    | 1, h => simp at h; subst h; exact ⟨rfl, by kernel_rfl⟩
    | i + 2, h => simp at h
  · match i, h, hs with
    | 0, h, hs => simp at h hs; subst h hs; exact .int Try.underlying3
    | 1, h, hs => simp at h hs; subst h hs; exact .str Try.underlying9
    | i + 2, h, hs => simp at h
theorem fit_group : Fit Try.prog 23 shGroup := by
  refine .rows Try.underlying23 Try.underlying38 (by kernel_rfl) rfl (fun i f h => ?_) (fun i f s h hs => ?_)
  · match i, h with
    | 0, h => simp at h; subst h; exact ⟨rfl, by kernel_rfl⟩
    | 1, h => simp at h; subst h; exact ⟨rfl, by kernel_rfl⟩
    | 2, h => simp at h; subst h; exact ⟨rfl, by kernel_rfl⟩
    | i + 3, h => simp at h
  · match i, h, hs with
    | 0, h, hs => simp at h hs; subst h hs; exact .int Try.underlying3
    | 1, h, hs => simp at h hs; subst h hs; exact .int Try.underlying3
    | 2, h, hs => simp at h hs; subst h hs; exact fit_rows
    | i + 3, h, hs => simp at h

theorem laws_gps {H : Type} {enc : TypeId × Value → H} {w : World} {base : Nat} {spare : Nat → Bool} {held : Bool} {a : Option Addr} {n c : Nat} {d : DataW H} {ps : List MemPlace}
    (h : DataW.Trod enc Try.prog w base spare held 23 (.slice a n c) d ps) : ∃ l, Gps w a n l := by
  obtain ⟨fuel, hf⟩ := h
  obtain ⟨e, he, hr, hh⟩ := rd_of_trod fit_group hf
  obtain ⟨A, m, c', l, hv, _, hs⟩ := gps_of_rd hh hr
  have h1 : Value.slice a n c = e.val := by simpa [Value.cells] using he
  rw [hv] at h1
  injection h1 with h1 h2 h3
  subst h1 h2
  exact ⟨l, hs⟩

set_option maxRecDepth 100000 in
theorem laws_gp {H : Type} {enc : TypeId × Value → H} {w : World} {base : Nat} {spare : Nat → Bool} {held : Bool} {cs : Array Value} {d : DataW H} {ps : List MemPlace} (hcs : cs.size = Try.prog.cellsOf 38)
    (h : DataW.Trod enc Try.prog w base spare held 38 (.agg cs) d ps) : ∃ a n c x, cs = #[.int .i64 x.at_, .int .i64 x.to_, .slice a n c] ∧ Rws w a n x.rows ∧ GpOk x := by
  have h3 : Try.prog.cellsOf 38 = 3 := by kernel_rfl
  rw [h3] at hcs
  obtain ⟨fuel, hf⟩ := h
  obtain ⟨y0, y1, y2, nf, _, _, t0, t1, t2⟩ := Go.Deep.trod_struct3 Try.underlying38 hf
  match cs, hcs with
  | ⟨[v0, v1, v2]⟩, _ =>
    have k1 : Try.prog.cellsOf 3 = 1 := by kernel_rfl
    have k2 : Try.prog.cellsOf 36 = 1 := by kernel_rfl
    have t0' : DataW.trod enc Try.prog w base spare held nf 3 [v0] = some y0 := by
      have := t0
      simp only [Value.cells, k1] at this
      exact this
    have t1' : DataW.trod enc Try.prog w base spare held nf 3 [v1] = some y1 := by
      have := t1
      simp only [Value.cells, k1] at this
      exact this
    have t2' : DataW.trod enc Try.prog w base spare held nf 36 [v2] = some y2 := by
      have := t2
      simp only [Value.cells, k2] at this
      exact this
    obtain ⟨i0, e0, _, wf0⟩ := DataW.trod_int Try.underlying3 t0'
    obtain ⟨i1, e1, _, wf1⟩ := DataW.trod_int Try.underlying3 t1'
    simp at e0 e1
    subst e0 e1
    obtain ⟨e, he, hr, hh⟩ := rd_of_trod fit_rows t2'
    obtain ⟨A, m, c', l, hv, _, hs⟩ := rws_of_rd hh hr
    simp at he
    rw [he, hv]
    exact ⟨A, m, c', ⟨i0, i1, l⟩, rfl, hs, ⟨int_range wf0, int_range wf1, hs.ok⟩⟩

end Go.Proofs.Ytkamenidgkjodaa
