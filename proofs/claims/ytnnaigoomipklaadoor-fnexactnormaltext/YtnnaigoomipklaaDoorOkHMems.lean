/-
  Words for memory: a slice of hunks that reads as a list; what the laws count of it.
  The laws' own small functions on hunks: copied, compared, marked.
-/
import Derived.Test.YtnnaigoomipklaaDoorOkMemT
import Derived.Test.YtnnaigoomipklaaDoorOkHBases
set_option linter.unusedSimpArgs false
set_option linter.unusedVariables false
namespace Go.Proofs.YtnnaigoomipklaaDoor
open Go.RowKit Go.ChangeShapes Go.WideShapes M

/-- The address and the length of a slice of hunks, in a world, and the hunks. -/
structure Hks (w : World) (a : Option Addr) (n : Nat) (l : List Hk) : Prop where
  len : l.length = n
  lim : n ≤ maxLen
  cell : ∀ k h, l[k]? = some h → ∃ b off A m c, a = some ⟨b, off, none⟩ ∧ w.cell? ⟨b, off + k * 3, none⟩ = some (.int .i64 h.at_) ∧ w.cell? ⟨b, off + k * 3 + 1, none⟩ = some (.int .i64 h.gone) ∧
    w.cell? ⟨b, off + k * 3 + 2, none⟩ = some (.slice A m c) ∧ Strs w A m h.new ∧ m ≤ c ∧ i64ok h.at_ ∧ i64ok h.gone

section
variable {w w' : World} {a : Option Addr} {n k : Nat} {l : List Hk}
theorem Hks.at_ (h : Hks w a n l) (hk : k < n) : ∃ b off A m c x, a = some ⟨b, off, none⟩ ∧ l[k]? = some x ∧ w.cell? ⟨b, off + k * 3, none⟩ = some (.int .i64 x.at_) ∧ w.cell? ⟨b, off + k * 3 + 1, none⟩ = some (.int .i64 x.gone) ∧
    w.cell? ⟨b, off + k * 3 + 2, none⟩ = some (.slice A m c) ∧ Strs w A m x.new ∧ m ≤ c ∧ i64ok x.at_ ∧ i64ok x.gone := by
  have hl : k < l.length := by rw [h.len]; exact hk
  obtain ⟨b, off, A, m, c, e, r⟩ := h.cell k _ (List.getElem?_eq_getElem hl)
  exact ⟨b, off, A, m, c, _, e, List.getElem?_eq_getElem hl, r⟩
theorem Hks.keep {B : Nat} (h : Hks w a n l) (hb : Below B w w') (hB : w.heap.size ≤ B) : Hks w' a n l :=
  ⟨h.len, h.lim, fun k s hs => by
    obtain ⟨b, off, A, m, c, e, h1, h2, h3, h4, h5⟩ := h.cell k s hs
    have hb := hb.mono hB
    exact ⟨b, off, A, m, c, e, cell_keep hb h1, cell_keep hb h2, cell_keep hb h3, h4.below hb, h5⟩⟩
theorem Hks.below (h : Hks w a n l) (hb : Below w.heap.size w w') : Hks w' a n l := h.keep hb (Nat.le_refl _)
theorem Hks.nil_ : Hks w a 0 [] := ⟨rfl, Nat.zero_le _, fun k s h => by simp at h⟩
end

/-- A slice of hunks of the call's own, from block 'base' on: the array and each New lie in blocks of their own. -/
structure OwnH (w : World) (base : Nat) (v : Value) (l : List Hk) (vs : List Value) : Prop where
  len : vs.length = l.length
  row : ∃ xs, w.ownsRow base 73 3 v l.length xs ∧ ∀ (k : Nat) (h : Hk) (u : Value), l[k]? = some h → vs[k]? = some u → xs[k * 3]? = some (.int .i64 h.at_) ∧ xs[k * 3 + 1]? = some (.int .i64 h.gone) ∧ xs[k * 3 + 2]? = some u
  news : ∀ (k : Nat) (h : Hk) (u : Value), l[k]? = some h → vs[k]? = some u → OwnV w base u h.new
  apart : ∀ (k : Nat) (u : Value) (g : Nat), vs[k]? = some u → u.ownBlock = some g → v.ownBlock ≠ some g
  apart2 : ∀ (i j : Nat) (u u' : Value) (g : Nat), vs[i]? = some u → vs[j]? = some u' → u.ownBlock = some g → u'.ownBlock = some g → i = j
  ints : ∀ h ∈ l, i64ok h.at_ ∧ i64ok h.gone
/-- The blocks of such a slice. -/
def Blk (v : Value) (vs : List Value) (g : Nat) : Prop := v.ownBlock = some g ∨ ∃ k : Nat, ∃ u, vs[k]? = some u ∧ u.ownBlock = some g

section
variable {S : Nat → Prop} {w w' : World} {base n cap g k : Nat} {v u : Value} {A : Option Addr} {l : List Hk} {vs : List Value}
theorem OwnH.get_ (h : OwnH w base v l vs) (hk : k < l.length) : ∃ x u, l[k]? = some x ∧ vs[k]? = some u := ⟨_, _, List.getElem?_eq_getElem hk, List.getElem?_eq_getElem (show k < vs.length by rw [h.len]; exact hk)⟩
theorem OwnH.lt (h : OwnH w base v l vs) (hg : Blk v vs g) : base ≤ g ∧ g < w.heap.size := by
  rcases hg with e | ⟨k, u, hu, e⟩
  · obtain ⟨xs, h1, _⟩ := h.row
    exact h1.lt g e
  · have hk : k < l.length := by rw [← h.len]; exact (List.getElem?_eq_some_iff.1 hu).1
    exact (h.news k _ u (List.getElem?_eq_getElem hk) hu).lt e
theorem OwnH.form (h : OwnH w base v l vs) (hn : l.length = n) : ∃ A cap, v = .slice A n cap ∧ n ≤ cap ∧ cap ≤ maxLen := by
  subst hn
  obtain ⟨xs, h1, _⟩ := h.row
  rcases h1.2 with ⟨hv, h0⟩ | ⟨g, cap, cur, hv, _, _, h1, h2, _⟩
  · exact ⟨none, 0, by rw [hv, h0], by omega, by omega⟩
  · exact ⟨_, cap, hv, h1, h2⟩
theorem OwnH.wrote (h : OwnH w base v l vs) (hw : Wrote S w w') (hne : ∀ g, Blk v vs g → ¬ S g) : OwnH w' base v l vs := by
  refine ⟨h.len, ?_, fun k x u hx hu => (h.news k x u hx hu).wrote hw (fun g e => hne g (.inr ⟨k, u, hu, e⟩)), h.apart, h.apart2, h.ints⟩
  obtain ⟨xs, h1, h2⟩ := h.row
  exact ⟨xs, ownsRow_wrote h1 hw (fun g e => hne g (.inl e)), h2⟩
theorem OwnH.below (h : OwnH w base v l vs) (hb : Below w.heap.size w w') : OwnH w' base v l vs := h.wrote (S := fun _ => False) (Wrote.of_below hb) (fun _ _ e => e)
theorem OwnH.nil_ : OwnH w base (.slice none 0 0) [] [] :=
  ⟨rfl, ⟨[], w.ownsRow_nil base _ _, fun k h u e => by simp at e⟩, fun k h u e => by simp at e, fun k u g e => by simp at e, fun i j u u' g e => by simp at e, fun h e => by simp at e⟩
/-- Within: the cells of one hunk, and that they may be written. -/
theorem OwnH.at_ (h : OwnH w base (.slice A n cap) l vs) (hk : k < n) : ∃ g x a2 m c, A = some ⟨g, 0, none⟩ ∧ base ≤ g ∧ g < w.heap.size ∧ l[k]? = some x ∧ vs[k]? = some (.slice a2 m c) ∧ m ≤ c ∧
    w.cell? ⟨g, k * 3, none⟩ = some (.int .i64 x.at_) ∧ w.cell? ⟨g, k * 3 + 1, none⟩ = some (.int .i64 x.gone) ∧ w.cell? ⟨g, k * 3 + 2, none⟩ = some (.slice a2 m c) ∧ OwnV w base (.slice a2 m c) x.new ∧ i64ok x.at_ ∧ i64ok x.gone ∧
    (∀ j, w.frozen? ⟨g, j, none⟩ = false) := by
  obtain ⟨xs, h1, h2⟩ := h.row
  have hn : l.length = n := by
    rcases h1.2 with ⟨hv, h0⟩ | ⟨g, cap', cur, hv, _⟩
    · injection hv with e1 e2 e3; omega
    · injection hv with e1 e2 e3; omega
  obtain ⟨x, u, hx, hu⟩ := h.get_ (show k < l.length by omega)
  obtain ⟨g, cap', hv, hb, hlt⟩ := h1.form (by omega)
  injection hv with e1 e2 e3
  subst e1 e3
  rw [hn] at h1
  have ho := h.news k x u hx hu
  obtain ⟨a2, c, rfl, hmc, _⟩ := ho.form rfl
  obtain ⟨q0, q1, q2⟩ := h2 k x _ hx hu
  exact ⟨g, x, a2, _, c, rfl, hb, hlt, hx, hu, hmc, by rw [h1.cellAt _ (by omega)]; exact q0, by rw [h1.cellAt _ (by omega)]; exact q1, by rw [h1.cellAt _ (by omega)]; exact q2, ho, (h.ints x (List.mem_of_getElem? hx)).1, (h.ints x (List.mem_of_getElem? hx)).2, fun j => h1.frozenAt j⟩
theorem OwnH.hks (h : OwnH w base (.slice A n cap) l vs) : Hks w A n l := by
  obtain ⟨xs, h1, h2⟩ := h.row
  have hn : l.length = n ∧ n ≤ maxLen := by
    rcases h1.2 with ⟨hv, h0⟩ | ⟨g, cap', cur, hv, _, _, h3, h4, _⟩
    · injection hv with e1 e2 e3; unfold maxLen; omega
    · injection hv with e1 e2 e3; omega
  refine ⟨hn.1, hn.2, fun k x hx => ?_⟩
  have hk : k < n := by rw [← hn.1]; exact (List.getElem?_eq_some_iff.1 hx).1
  obtain ⟨g, x', a2, m, c, rfl, _, _, hx', hu, hmc, c0, c1, c2, ho, i0, i1, _⟩ := h.at_ hk
  rw [hx] at hx'
  injection hx' with hx'
  subst hx'
  exact ⟨g, 0, a2, m, c, rfl, by rw [Nat.zero_add]; exact c0, by rw [Nat.zero_add]; exact c1, by rw [Nat.zero_add]; exact c2, ho.strs, hmc, i0, i1⟩
end

theorem szHunk_any (A : Option Addr) (m c : Nat) (x : Hk) (left : Int) (w : World) (hl : Strs w A m x.new) (h0 : 0 ≤ left) (h1 : left ≤ 1048576) :
    Calls Tryd.prog 37 #[.agg #[.int .i64 x.at_, .int .i64 x.gone, .slice A m c], .int .i64 left] w fun e w' => e = .returned (.int .i64 (szS x.new left)) ∧ Below w.heap.size w w' := by
  by_cases hn : left < x.new.length + total x.new
  · have hf := Lib.hid (show szS x.new left = -1 from if_pos hn)
    go_enter Tryd.func37, Tryd.ntmps37
    go_wp2_with fail
    refine (sz_neg A m c x.new left _ (hl.below (below_alloc _ _)) h0 h1 hn).mono ?_
    rintro e w1 ⟨rfl, rfl⟩
    go_wp2
    go_ret
    exact ⟨ret_int hf.out.symm, below_alloc _ _⟩
  · have hf := Lib.hid (show szS x.new left = left - x.new.length - total x.new from if_neg hn)
    have hr : 0 ≤ szS x.new left := by rw [hf.out]; omega
    go_enter Tryd.func37, Tryd.ntmps37
    go_wp2_with fail
    refine (szStringS_any A m c x.new left _ (hl.below (below_alloc _ _)) h0 h1).mono ?_
    rintro e w1 ⟨rfl, rfl⟩
    go_wp2
    go_ret
    exact ⟨rfl, below_alloc _ _⟩

set_option maxHeartbeats 400000 in
theorem szHunkS_any (a : Option Addr) (n c : Nat) (l : List Hk) (left : Int) (w : World) (hl : Hks w a n l) (h0 : 0 ≤ left) (h1 : left ≤ 1048576) :
    Calls Tryd.prog 13 #[.slice a n c, .int .i64 left] w fun e w' => e = .returned (.int .i64 (szHS l left)) ∧ Below w.heap.size w w' := by
  have hlim := hl.lim
  unfold maxLen at hlim
  have HL := Lib.hid hl.len
  by_cases hn : left < n
  · have hf := Lib.hid (show szHS l left = -1 from if_pos (by rw [HL.out]; omega))
    go_enter Tryd.func13, Tryd.ntmps13
    go_wp2
    go_ret
    exact ⟨ret_int hf.out.symm, Below.refl _ _⟩
  · go_enter Tryd.func13, Tryd.ntmps13
    go_wp2
    go_loopw [1, 5] (fun q i w' => ∃ k : Nat, ∃ r : Int, i = .int .i64 k ∧ q = .int .i64 r ∧ k ≤ n ∧ 0 ≤ r ∧ r ≤ 1048576 ∧ Hid (r + n + totalH (l.take k) = left) ∧ Below w.heap.size w w') (fun _ i _ => n - (intOf i).toNat)
    case atStart => exact ⟨0, left - n, rfl, rfl, by omega, by omega, by omega, show left - n + n + ((totalH (l.take 0) : Nat) : Int) = left by simp [totalH], Below.refl _ _⟩
    case round =>
      obtain ⟨k, r, rfl, rfl, hk, hr0, hr1, H, hb⟩ := hrel
      by_cases hlt : k < n
      · obtain ⟨b, off, A, m, c', x, rfl, hx, c0, c1, c2, hs, hmc, _, _⟩ := (hl.below hb).at_ hlt
        have HX := Lib.hid hx
        clear hx
        by_cases hq : r < x.new.length + total x.new
        · have hs1 := Lib.hid (show szS x.new r = -1 from if_pos hq)
          have hf := Lib.hid (show szHS l left = -1 from if_pos (by
            have h1 := totalH_take_succ HX.out; have h2 := totalH_take_le l (k + 1); have h3 := H.out; rw [HL.out]; omega))
          clear hq
          go_wp2_with fail
          refine (szHunk_any A m c' x r _ hs hr0 hr1).mono ?_
          rintro e w1 ⟨rfl, b1⟩
          rw [hs1.out]
          go_wp2
          go_ret
          exact ⟨ret_int hf.out.symm, hb.next b1⟩
        · have h1 := Lib.hid (totalH_take_succ HX.out)
          obtain ⟨r', hs1, hr'⟩ : ∃ r', Hid (szS x.new r = r') ∧ Hid (r' = r - x.new.length - total x.new) := ⟨_, rfl, if_neg hq⟩
          have hr2 : 0 ≤ r' ∧ r' ≤ 1048576 := by have := hr'.out; omega
          obtain ⟨hr2, hr3⟩ := hr2
          clear hq
          go_wp2_with fail
          refine (szHunk_any A m c' x r _ hs hr0 hr1).mono ?_
          rintro e w1 ⟨rfl, b1⟩
          rw [hs1.out]
          go_wp2
          go_roundw
          case rel => exact ⟨k + 1, r', by go_num, rfl, by omega, by omega, by omega, show _ = _ by have h1 := h1.out; have h3 := H.out; have h4 := hr'.out; omega, hb.next b1⟩
          case measure => simp [intOf]; omega
      · have hf := Lib.hid (show szHS l left = r by
          have h3 := H.out
          have h4 : l.take k = l := List.take_of_length_le (by rw [HL.out]; omega)
          rw [h4] at h3
          unfold szHS
          rw [if_neg (by rw [HL.out]; omega), HL.out]
          omega)
        go_wp2
        go_ret
        exact ⟨ret_int hf.out.symm, hb⟩

theorem szH_neg (a : Option Addr) (n c : Nat) (l : List Hk) (left : Int) (w : World) (hl : Hks w a n l) (h0 : 0 ≤ left) (h1 : left ≤ 1048576) (h : left < l.length + totalH l) :
    Calls Tryd.prog 13 #[.slice a n c, .int .i64 left] w fun e w' => e = .returned (.int .i64 (-1)) ∧ Below w.heap.size w w' := by
  have e : szHS l left = -1 := if_pos h
  rw [← e]
  exact szHunkS_any a n c l left w hl h0 h1

theorem OwnV.setBelow {w : World} {base : Nat} {v : Value} {a : Addr} {l : List ByteArray} (h : OwnV w base v l) (ha : a.block < base) (u : Value) : OwnV (w.setCell a u) base v l :=
  h.wrote (Wrote.set (fun g => g = a.block) w a u rfl) (fun g e e2 => by have := (h.lt e).1; omega)
theorem heap_at {w : World} {o : Obj} {k : Nat} (h : k = w.heap.size) : (w.alloc o).heap[k]? = some o := by subst h; exact heap_alloc_new w o

theorem toHunk_any (A : Option Addr) (m c : Nat) (x : Hk) (w : World) (hl : Strs w A m x.new) (hm : m ≤ 1048576) (hx : i64ok x.at_ ∧ i64ok x.gone) :
    Calls Tryd.prog 39 #[.agg #[.int .i64 x.at_, .int .i64 x.gone, .slice A m c]] w fun e w' => ∃ b, w.heap.size ≤ b ∧ b < w'.heap.size ∧ e = .returned (.agg #[.int .i64 x.at_, .int .i64 x.gone, .slice (some ⟨b, 0, none⟩) m m]) ∧ OwnV w' w.heap.size (.slice (some ⟨b, 0, none⟩) m m) x.new ∧ Below w.heap.size w w' := by
  go_enter Tryd.func39, Tryd.ntmps39
  go_wp2_with fail
  refine (toStringS_any A m c x.new _ (((hl.below (below_alloc _ _)).below (below_alloc _ _)).below (below_alloc _ _)) hm).mono ?_
  rintro e w1 ⟨rfl, o1, b1⟩
  simp only [World.size_alloc] at o1 b1 ⊢
  have q1 : w1.heap[w.heap.size + 1]? = some (.cells #[.int .i64 0, .int .i64 0, .slice none 0 0] 73 (0, 0)) := by
    rw [b1.block _ (by omega), Below.heap_alloc _ _ _ (by simp)]
    exact heap_at (by simp)
  have q2 : w1.heap[w.heap.size + 1 + 1]? = some (.cells #[.int .i64 x.at_, .int .i64 x.gone, .slice none 0 0] 73 (0, 0)) := by
    rw [b1.block _ (by omega)]
    exact heap_at (by simp)
  have c10 : w1.cell? ⟨w.heap.size + 1, 0, none⟩ = some (.int .i64 0) := by simp [World.cell?, q1]
  have c11 : w1.cell? ⟨w.heap.size + 1, 1, none⟩ = some (.int .i64 0) := by simp [World.cell?, q1]
  have c12 : w1.cell? ⟨w.heap.size + 1, 2, none⟩ = some (.slice none 0 0) := by simp [World.cell?, q1]
  have f1 : ∀ j, w1.frozen? ⟨w.heap.size + 1, j, none⟩ = false := fun j => by simp [World.frozen?, q1]
  have c20 : w1.cell? ⟨w.heap.size + 1 + 1, 0, none⟩ = some (.int .i64 x.at_) := by simp [World.cell?, q2]
  have c21 : w1.cell? ⟨w.heap.size + 1 + 1, 1, none⟩ = some (.int .i64 x.gone) := by simp [World.cell?, q2]
  have c22 : w1.cell? ⟨w.heap.size + 1 + 1, 2, none⟩ = some (.slice none 0 0) := by simp [World.cell?, q2]
  have f2 : ∀ j, w1.frozen? ⟨w.heap.size + 1 + 1, j, none⟩ = false := fun j => by simp [World.frozen?, q2]
  clear q1 q2
  go_wp2
  (try simp only [Exit.inBlock, Exit.then])
  refine bodyPost_ret (v := .agg #[.int .i64 x.at_, .int .i64 x.gone, .slice (some ⟨w.heap.size + 1 + 1 + 1, 0, none⟩) m m]) (by simp [results, Tryd.results39, go_sem, c10, c11, c12]) rfl ?_
  refine ⟨w.heap.size + 1 + 1 + 1, by omega, ?_, rfl, ?_, ?_⟩
  · have := (o1.lt (g := w.heap.size + 1 + 1 + 1) rfl).2
    simpa [World.setCell] using this
  · exact ((((o1.setBelow (by simp) _).setBelow (by simp) _).setBelow (by simp) _).setBelow (by simp) _).more (by omega)
  · have hb0 : Below w.heap.size w w1 := (((Below.refl _ w).alloc (Nat.le_refl _) _).alloc (by simp <;> omega) _ |>.alloc (by simp <;> omega) _).trans (b1.mono (by omega))
    exact (((hb0.setCell (by simp <;> omega) _).setCell (by simp <;> omega) _).setCell (by simp <;> omega) _).setCell (by simp <;> omega) _

section
variable {S : Nat → Prop} {w w' : World} {base n cap g k : Nat} {v u : Value} {A : Option Addr} {l : List Hk} {vs : List Value} {x : Hk}
theorem set_get {α : Type} {l : List α} {k j : Nat} {a b : α} (h : (l.set k a)[j]? = some b) : (k = j ∧ b = a) ∨ (k ≠ j ∧ l[j]? = some b) := by
  rw [List.getElem?_set] at h
  split at h
  · split at h
    · injection h with h; exact .inl ⟨by assumption, h.symm⟩
    · cases h
  · exact .inr ⟨by assumption, h⟩
theorem set_ne {α : Type} {l : List α} {k j : Nat} {a b : α} (h : l[j]? = some b) (hn : k ≠ j) : (l.set k a)[j]? = some b := by rw [List.getElem?_set, if_neg hn, h]
theorem set_eq {α : Type} {l : List α} {k : Nat} {a : α} (h : k < l.length) : (l.set k a)[k]? = some a := by rw [List.getElem?_set, if_pos rfl, if_pos h]
/-- All three cells of one hunk are written. -/
theorem OwnH.put (h : OwnH w base (.slice (some ⟨g, 0, none⟩) n cap) l vs) (hk : k < n) (x : Hk) (hx : i64ok x.at_ ∧ i64ok x.gone) (hu : OwnV w base u x.new) (hf : ∀ g', u.ownBlock = some g' → ¬ Blk (.slice (some ⟨g, 0, none⟩) n cap) vs g') :
    OwnH (((w.setCell ⟨g, k * 3, none⟩ (.int .i64 x.at_)).setCell ⟨g, k * 3 + 1, none⟩ (.int .i64 x.gone)).setCell ⟨g, k * 3 + 2, none⟩ u) base (.slice (some ⟨g, 0, none⟩) n cap) (l.set k x) (vs.set k u) := by
  have hn : l.length = n := h.hks.len
  obtain ⟨xs, h1, h2⟩ := h.row
  have hlen := h.len
  have hxl := h1.1
  rw [hn] at h1
  have s1 := (h1.stored (k * 3) (.int .i64 x.at_)).1
  have s2 := (s1.stored (k * 3 + 1) (.int .i64 x.gone)).1
  have s3 := (s2.stored (k * 3 + 2) u).1
  have hw : Wrote (fun i => i = g) w (((w.setCell ⟨g, k * 3, none⟩ (.int .i64 x.at_)).setCell ⟨g, k * 3 + 1, none⟩ (.int .i64 x.gone)).setCell ⟨g, k * 3 + 2, none⟩ u) :=
    ((Wrote.set (fun i => i = g) w _ _ rfl).trans (Wrote.set (fun i => i = g) _ _ _ rfl) (fun _ _ e => e)).trans (Wrote.set (fun i => i = g) _ _ _ rfl) (fun _ _ e => e)
  refine ⟨by simp [hlen], ⟨_, by rw [List.length_set, hn]; exact s3, fun j y t hy ht => ?_⟩, fun j y t hy ht => ?_, fun j t g' ht e => ?_, fun i j t t' g' ht ht' e e' => ?_, fun y hy => ?_⟩
  · rcases set_get hy with ⟨rfl, rfl⟩ | ⟨hne, hy⟩
    · rcases set_get ht with ⟨_, rfl⟩ | ⟨hne, ht⟩
      · exact ⟨set_ne (set_ne (set_eq (by omega)) (by omega)) (by omega), set_ne (set_eq (by rw [List.length_set]; omega)) (by omega), set_eq (by rw [List.length_set, List.length_set]; omega)⟩
      · exact absurd rfl hne
    · rcases set_get ht with ⟨e, rfl⟩ | ⟨hne, ht⟩
      · exact absurd e hne
      · obtain ⟨q0, q1, q2⟩ := h2 j y t hy ht
        exact ⟨set_ne (set_ne (set_ne q0 (by omega)) (by omega)) (by omega), set_ne (set_ne (set_ne q1 (by omega)) (by omega)) (by omega), set_ne (set_ne (set_ne q2 (by omega)) (by omega)) (by omega)⟩
  · rcases set_get hy with ⟨rfl, rfl⟩ | ⟨hne, hy⟩
    · rcases set_get ht with ⟨_, rfl⟩ | ⟨hne, ht⟩
      · exact hu.wrote hw (fun g' e e2 => hf g' e (.inl (by rw [e2]; rfl)))
      · exact absurd rfl hne
    · rcases set_get ht with ⟨e, rfl⟩ | ⟨hne, ht⟩
      · exact absurd e hne
      · exact (h.news j y t hy ht).wrote hw (fun g' e e2 => h.apart j t g' ht e (by rw [e2]; rfl))
  · rcases set_get ht with ⟨_, rfl⟩ | ⟨hne, ht⟩
    · exact fun e2 => hf g' e (.inl e2)
    · exact h.apart j t g' ht e
  · rcases set_get ht with ⟨rfl, rfl⟩ | ⟨hne, h3⟩
    · rcases set_get ht' with ⟨rfl, rfl⟩ | ⟨hne', h4⟩
      · rfl
      · exact absurd (.inr ⟨j, t', h4, e'⟩) (hf g' e)
    · rcases set_get ht' with ⟨rfl, rfl⟩ | ⟨hne', h4⟩
      · exact absurd (.inr ⟨i, t, h3, e⟩) (hf g' e')
      · exact h.apart2 i j t t' g' h3 h4 e e'
  · rcases List.mem_or_eq_of_mem_set hy with h5 | h5
    · exact h.ints y h5
    · rw [h5]; exact hx
end

end Go.Proofs.YtnnaigoomipklaaDoor

namespace Go.Proofs.YtnnaigoomipklaaDoor
open Go.RowKit Go.ChangeShapes Go.WideShapes M

theorem hk_info : (Tryd.prog.info? 73).map (fun i => (i.zero, i.size, i.bytes)) = some (some (.agg #[.int .i64 0, .int .i64 0, .slice none 0 0]), 3, 40) := by kernel_rfl
def blankCells (n : Nat) : Array Value := madeCells #[.int .i64 0, .int .i64 0, .slice none 0 0] (n * 3)
theorem make_hks (n : Nat) (hn : n ≤ 1048576) (w : World) :
    (Instr.makeSlice 36 (.int .i64 (n : Int)) (.int .i64 (n : Int))).run Tryd.prog w = .ok (.slice (some ⟨w.heap.size, 0, none⟩) n n) (w.alloc (.cells (blankCells n) 73)) := by
  obtain ⟨i, h1, h2, h3, h4⟩ := info_parts hk_info
  have hr := run_make (P := Tryd.prog) w 36 73 i _ Tryd.underlying36 h1 h2 .i64 .i64 n n (by omega) (by omega) (by rw [h4]; omega) (by omega)
  rw [h3] at hr
  simpa [blankCells, Value.cells] using hr
theorem blank_get (n k : Nat) (hk : k < n) : (blankCells n).toList[k * 3]? = some (.int .i64 0) ∧ (blankCells n).toList[k * 3 + 1]? = some (.int .i64 0) ∧ (blankCells n).toList[k * 3 + 2]? = some (.slice none 0 0) := by
  have hs : (blankCells n).size = n * 3 := by simp [blankCells, madeCells]
  have hg : ∀ (j r : Nat), j < n * 3 → j % 3 = r → (blankCells n).toList[j]? = some ((#[.int .i64 0, .int .i64 0, .slice none 0 0] : Array Value)[r]!) := by
    intro j r hj hr
    rw [← hr, blankCells, madeCells, Array.toList_map, Array.toList_range, List.getElem?_map, List.getElem?_range hj]
    rfl
  exact ⟨hg _ 0 (by omega) (by omega), hg _ 1 (by omega) (by omega), hg _ 2 (by omega) (by omega)⟩
theorem OwnH.made (w : World) (n : Nat) (hn : n ≤ 1048576) : OwnH (w.alloc (.cells (blankCells n) 73)) w.heap.size (.slice (some ⟨w.heap.size, 0, none⟩) n n) (List.replicate n blankH) (List.replicate n (.slice none 0 0)) := by
  have hs : (blankCells n).size = n * 3 := by simp [blankCells, madeCells]
  have hg : ∀ {α : Type} {k : Nat} {a b : α}, (List.replicate n a)[k]? = some b → k < n ∧ b = a := by
    intro α k a b h
    rw [List.getElem?_replicate] at h
    split at h
    · injection h with h; exact ⟨by assumption, h.symm⟩
    · cases h
  refine ⟨by simp, ⟨(blankCells n).toList, ⟨by simp [hs], .inr ⟨w.heap.size, n, blankCells n, by simp, Nat.le_refl _, heap_alloc_new w _, by simp, by unfold maxLen; omega, hs, by rw [List.length_replicate]; exact List.take_of_length_le (by simp [hs])⟩⟩, fun k h u hh hu => ?_⟩, fun k h u hh hu => ?_, fun k u g hu e => ?_, fun i j u u' g hu hu' e e' => ?_, fun h hh => ?_⟩
  · obtain ⟨hk, rfl⟩ := hg hh
    obtain ⟨_, rfl⟩ := hg hu
    exact blank_get n k hk
  · obtain ⟨hk, rfl⟩ := hg hh
    obtain ⟨_, rfl⟩ := hg hu
    exact OwnV.nil_
  · obtain ⟨_, rfl⟩ := hg hu
    cases e
  · obtain ⟨_, rfl⟩ := hg hu
    cases e
  · rw [List.eq_of_mem_replicate hh]
    exact ⟨⟨by decide, by decide⟩, ⟨by decide, by decide⟩⟩

set_option maxHeartbeats 400000 in
theorem toHunkS_any (a : Option Addr) (n c : Nat) (l : List Hk) (w : World) (hl : Hks w a n l) (hn : l.length + totalH l ≤ 1048576) :
    Calls Tryd.prog 16 #[.slice a n c] w fun e w' => e = .returned (.slice (some ⟨w.heap.size, 0, none⟩) n n) ∧ (∃ vs, OwnH w' w.heap.size (.slice (some ⟨w.heap.size, 0, none⟩) n n) l vs) ∧ Below w.heap.size w w' := by
  have HL := Lib.hid hl.len
  have hn1 : n ≤ 1048576 := by rw [← hl.len]; omega
  have hmk := make_hks n hn1
  have HN := Lib.hid hn
  clear hn
  go_enter Tryd.func16, Tryd.ntmps16
  go_wp2
  go_loopw [4] (fun i w' => ∃ k : Nat, i = .int .i64 k ∧ k ≤ n ∧ (∃ vs, OwnH w' w.heap.size (.slice (some ⟨w.heap.size, 0, none⟩) n n) (fillH l k) vs) ∧ Below w.heap.size w w') (fun i _ => n - (intOf i).toNat)
  case atStart =>
    refine ⟨0, rfl, by omega, ?_, (Below.refl _ _).alloc (Nat.le_refl _) _⟩
    rw [fillH_zero, HL.out]
    exact ⟨_, OwnH.made w n hn1⟩
  case round =>
    obtain ⟨k, rfl, hk, ⟨vs, ho⟩, hb⟩ := hrel
    by_cases hlt : k < n
    · obtain ⟨b, off, A, m, c', x, rfl, hx, c0, c1, c2, hs, hmc, i0, i1⟩ := (hl.below hb).at_ hlt
      have HX := Lib.hid hx
      have hm : m ≤ 1048576 := by have := totalH_mem (List.mem_of_getElem? hx); have := HN.out; have := hs.len; omega
      clear hx
      go_wp2_with fail
      refine (toHunk_any A m c' x _ hs hm ⟨i0, i1⟩).mono ?_
      rintro e w1 ⟨g, hg1, hg2, rfl, o1, b1⟩
      have ho1 := ho.below b1
      have hold : ∀ g', Blk (.slice (some ⟨w.heap.size, 0, none⟩) n n) vs g' → g' < wr.heap.size := fun g' e => (ho.lt e).2
      obtain ⟨g0, x0, a2, m2, c2', hg0, hb0, hl0, hx0, hu0, hmc0, d0, d1, d2, ho0, j0, j1, hfz⟩ := ho1.at_ hlt
      injection hg0 with hg0
      injection hg0 with hg0
      subst hg0
      have hput := ho1.put hlt x ⟨i0, i1⟩ (o1.more (show w.heap.size ≤ wr.heap.size from hb.size)) (fun g' e e2 => by have := hold g' e2; injection e with e; simp at e; omega)
      clear hx0 hu0
      go_wp2
      go_roundw
      case rel =>
        refine ⟨k + 1, by go_num, by omega, ⟨_, by rw [← fillH_set HX.out]; exact hput⟩, ?_⟩
        exact (((hb.next b1).setCell (Nat.le_refl _) _).setCell (Nat.le_refl _) _).setCell (Nat.le_refl _) _
      case measure => simp [intOf]; omega
    · have hf := Lib.hid (fillH_all l (k := k) (by rw [HL.out]; omega))
      go_wp2
      go_ret
      exact ⟨rfl, ⟨vs, by rw [hf.out] at ho; exact ho⟩, hb⟩

theorem eqHunk_any (A B : Option Addr) (m n c d : Nat) (x y : Hk) (w : World) (hx : Strs w A m x.new) (hy : Strs w B n y.new) :
    Calls Tryd.prog 41 #[.agg #[.int .i64 x.at_, .int .i64 x.gone, .slice A m c], .agg #[.int .i64 y.at_, .int .i64 y.gone, .slice B n d]] w fun e w' => e = .returned (.bool (eqH x y)) ∧ Below w.heap.size w w' := by
  have hb2 : Below w.heap.size w ((w.alloc (.cells #[.int .i64 x.at_, .int .i64 x.gone, .slice A m c] 73)).alloc (.cells #[.int .i64 y.at_, .int .i64 y.gone, .slice B n d] 73)) := (below_alloc w _).next (below_alloc _ _)
  by_cases h1 : x.at_ = y.at_
  · have q1 : (x.at_ != y.at_) = false := by simp [h1]
    by_cases h2 : x.gone = y.gone
    · have q2 : (x.gone != y.gone) = false := by simp [h2]
      have hf := Lib.hid (show eqH x y = eqT x.new y.new by simp [eqH, h1, h2])
      clear h1 h2
      go_enter Tryd.func41, Tryd.ntmps41
      go_wp2_with fail
      refine (eqStringS_any A B m n c d x.new y.new _ (hx.below hb2) (hy.below hb2)).mono ?_
      rintro e w1 ⟨rfl, d1⟩
      have b1 := hb2.next d1.below
      cases hq : eqT x.new y.new
      all_goals
        go_wp2
        go_ret
        exact ⟨ret_bool (by rw [hf.out, hq]), b1⟩
    · have q2 : (x.gone != y.gone) = true := by simp [h2]
      have hf := Lib.hid (show eqH x y = false by simp [eqH, h2])
      clear h1 h2
      go_enter Tryd.func41, Tryd.ntmps41
      go_wp2
      go_ret
      exact ⟨ret_bool hf.out.symm, hb2⟩
  · have q1 : (x.at_ != y.at_) = true := by simp [h1]
    have hf := Lib.hid (show eqH x y = false by simp [eqH, h1])
    clear h1
    go_enter Tryd.func41, Tryd.ntmps41
    go_wp2
    go_ret
    exact ⟨ret_bool hf.out.symm, hb2⟩

theorem eqH_step {l r : List Hk} {k : Nat} {s t : Hk} (H : ∀ j s t, j < k → l[j]? = some s → r[j]? = some t → eqH s t = true) (hs : l[k]? = some s) (ht : r[k]? = some t) (h : eqH s t = true) :
    ∀ j s t, j < k + 1 → l[j]? = some s → r[j]? = some t → eqH s t = true := by
  intro j s' t' hj hs' ht'
  by_cases e : j = k
  · subst e; rw [hs] at hs'; rw [ht] at ht'; injection hs' with hs'; injection ht' with ht'; rw [← hs', ← ht', h]
  · exact H j s' t' (by omega) hs' ht'

set_option maxHeartbeats 1000000 in
theorem eqHunkS_any (a b : Option Addr) (n m c d : Nat) (l r : List Hk) (w : World) (hl : Hks w a n l) (hr : Hks w b m r) :
    Calls Tryd.prog 19 #[.slice a n c, .slice b m d] w fun e w' => e = .returned (.bool (eqHS l r)) ∧ Below w.heap.size w w' := by
  have HL := Lib.hid hl.len
  have HR := Lib.hid hr.len
  have hlim := hl.lim
  unfold maxLen at hlim
  by_cases hnm : n = m
  · subst hnm
    have hq : ((n : Int) != (n : Int)) = false := by simp
    go_enter Tryd.func19, Tryd.ntmps19
    go_wp2
    go_loopw [5] (fun i w' => ∃ k : Nat, i = .int .i64 k ∧ k ≤ n ∧ Hid (∀ j s t, j < k → l[j]? = some s → r[j]? = some t → eqH s t = true) ∧ Below w.heap.size w w') (fun i _ => n - (intOf i).toNat)
    case atStart => exact ⟨0, rfl, by omega, fun j s t h => by omega, Below.refl _ _⟩
    case round =>
      obtain ⟨k, rfl, hk, H, hb⟩ := hrel
      by_cases hlt : k < n
      · obtain ⟨b1, off1, A1, m1, c1, x, rfl, hx, d0, d1, d2, hs1, _, _, _⟩ := (hl.below hb).at_ hlt
        obtain ⟨b2, off2, A2, m2, c2, y, rfl, hy, e0, e1, e2, hs2, _, _, _⟩ := (hr.below hb).at_ hlt
        have HX := Lib.hid hx
        have HY := Lib.hid hy
        clear hx hy
        have hi0 : (0 : Int) ≤ (k : Int) := by omega
        have hi1 : (k : Int) < (n : Int) := by omega
        go_wp2
        go_region_held3 (fun w' => w'.cell? ⟨b1, off1 + k * 3, none⟩ = some (.int .i64 x.at_) ∧ w'.cell? ⟨b1, off1 + k * 3 + 1, none⟩ = some (.int .i64 x.gone) ∧ w'.cell? ⟨b1, off1 + k * 3 + 2, none⟩ = some (.slice A1 m1 c1) ∧ w'.cell? ⟨b2, off2 + k * 3, none⟩ = some (.int .i64 y.at_) ∧ w'.cell? ⟨b2, off2 + k * 3 + 1, none⟩ = some (.int .i64 y.gone) ∧ w'.cell? ⟨b2, off2 + k * 3 + 2, none⟩ = some (.slice A2 m2 c2)) (first | exact ⟨d0, d1, d2, e0, e1, e2⟩ | exact ⟨cell_keep q1 d0, cell_keep q1 d1, cell_keep q1 d2, cell_keep q1 e0, cell_keep q1 e1, cell_keep q1 e2⟩ | go_keep)
          (first | (go_at_call 41; refine (eqHunk_any A1 A2 m1 m2 c1 c2 x y _ (hs1.below (Below.refl _ _).drew) (hs2.below (Below.refl _ _).drew)).mono ?_; rintro e w1 ⟨rfl, q1⟩))
        have hbq := hb.drew.next q1
        cases hq2 : eqH x y
        · have hf := Lib.hid (eqHS_at HX.out HY.out hq2)
          go_wp2
          go_ret
          exact ⟨ret_bool hf.out.symm, hbq⟩
        · have HST := Lib.hid hq2
          go_wp2
          go_roundw
          case rel => exact ⟨k + 1, by go_num, by omega, eqH_step H.out HX.out HY.out HST.out, hbq⟩
          case measure => simp [intOf]; omega
      · have hf := Lib.hid (eqHS_all (fun j s t h1 h2 => H.out j s t (by have := (List.getElem?_eq_some_iff.1 h1).1; have := HL.out; omega) h1 h2) (HL.out.trans HR.out.symm))
        go_wp2
        go_ret
        exact ⟨ret_bool hf.out.symm, hb⟩
  · have hq : ((n : Int) != (m : Int)) = true := by simp; omega
    have hf := Lib.hid (eqHS_len (l := l) (r := r) (by rw [HL.out, HR.out]; exact hnm))
    go_enter Tryd.func19, Tryd.ntmps19
    go_wp2
    go_ret
    exact ⟨ret_bool hf.out.symm, Below.refl _ _⟩

theorem szT_more (a : Option Addr) (n c : Nat) (l : List ByteArray) (left : Int) (w : World) (hl : Strs w a n l) (h0 : 0 ≤ left) (h1 : left ≤ 1048576) (h : (l.length : Int) + total l ≤ left) :
    Calls Tryd.prog 12 #[.slice a n c, .int .i64 left] w fun e w' => ∃ r : Int, 0 ≤ r ∧ r ≤ 1048576 ∧ Hid (r + l.length + total l = left) ∧ e = .returned (.int .i64 r) ∧ w = w' := by
  have e : szS l left = left - l.length - total l := if_neg (by omega)
  refine (szStringS_any a n c l left w hl h0 h1).mono fun e' w' ⟨h1, h2⟩ => ⟨szS l left, by omega, by omega, show _ = _ by omega, h1, h2⟩
theorem szH_more (a : Option Addr) (n c : Nat) (l : List Hk) (left : Int) (w : World) (hl : Hks w a n l) (h0 : 0 ≤ left) (h1 : left ≤ 1048576) (h : (l.length : Int) + totalH l ≤ left) :
    Calls Tryd.prog 13 #[.slice a n c, .int .i64 left] w fun e w' => ∃ r : Int, 0 ≤ r ∧ r ≤ 1048576 ∧ Hid (r + l.length + totalH l = left) ∧ e = .returned (.int .i64 r) ∧ Below w.heap.size w w' := by
  have e : szHS l left = left - l.length - totalH l := if_neg (by omega)
  refine (szHunkS_any a n c l left w hl h0 h1).mono fun e' w' ⟨h1, h2⟩ => ⟨szHS l left, by omega, by omega, show _ = _ by omega, h1, h2⟩
theorem Wrote.below' {S : Nat → Prop} {w w' a : World} (hb : Below a.heap.size a w) (h : Wrote S w w') (hs : ∀ k, S k → a.heap.size ≤ k) : Below a.heap.size a w' := Wrote.below hb h hb.size hs

end Go.Proofs.YtnnaigoomipklaaDoor
