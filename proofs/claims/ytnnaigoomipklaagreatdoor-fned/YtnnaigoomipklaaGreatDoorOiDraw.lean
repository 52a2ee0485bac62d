/-
  What the model's draws do: they answer something of bounded size, and turn nothing but their own memory.
-/
import Derived.Test.YtnnaigoomipklaaGreatDoorProg
import Derived.Test.YtnnaigoomipklaaGreatDoorOiBase
import Derived.Test.YtnnaigoomipklaaGreatDoorOiMemT
import Derived.PlainAid
set_option linter.unusedSimpArgs false
set_option linter.unusedVariables false
namespace Go.Proofs.YtnnaigoomipklaaGreatDoor
open Go.RowKit M

/-- A number that a uint64 can hold. -/
def U64 (x : Int) : Prop := 0 ≤ x ∧ x ≤ 18446744073709551615
/-- A slice of bytes that lies ahead of block g. -/
def Bts (w : World) (g : Nat) (a : Option Addr) (n : Nat) : Prop := ∀ k, k < n → ∃ b off x, a = some ⟨b, off, none⟩ ∧ b < g ∧ w.cell? ⟨b, off + k, none⟩ = some (.int .u8 x) ∧ 0 ≤ x ∧ x ≤ 255
/-- The draws' own memory: the bytes, how many are taken, and the sequence. -/
structure Curs (w : World) (g M : Nat) : Prop where
  ex : ∃ (a : Option Addr) (n c : Nat) (k : Nat) (seed : Int), w.heap[g]? = some (.cells #[.slice a n c, .int .i64 k, .int .u64 seed] 91 (0, 0)) ∧ k ≤ M ∧ n ≤ 1048576 ∧ U64 seed ∧ Bts w g a n

theorem Bts.keep {w w' : World} {g n : Nat} {a : Option Addr} (h : Bts w g a n) (hk : ∀ b, b < g → w'.heap[b]? = w.heap[b]?) : Bts w' g a n := by
  intro k hn
  obtain ⟨b, off, x, h1, h2, h3, h4⟩ := h k hn
  exact ⟨b, off, x, h1, h2, (World.cell?_of_block (hk b h2)).trans h3, h4⟩
theorem Curs.lt {w : World} {g M : Nat} (h : Curs w g M) : g < w.heap.size := by
  obtain ⟨a, n, c, k, seed, h1, _⟩ := h.ex
  exact (Array.getElem?_eq_some_iff.1 h1).1
/-- What is written lies behind. -/
theorem Curs.kept {w w' : World} {g M : Nat} {row : Option Nat} (h : Curs w g M) (hg : w.grownBy w' row) (hr : ∀ b, row = some b → g < b) : Curs w' g M := by
  have hlt := h.lt
  obtain ⟨a, n, c, k, seed, h1, h2, h3, h4, h5⟩ := h.ex
  have hk : ∀ b, b ≤ g → w'.heap[b]? = w.heap[b]? := fun b hb => hg.block b (by omega) (fun e => by have := hr b e.symm; omega)
  exact ⟨a, n, c, k, seed, (hk g (Nat.le_refl _)).trans h1, h2, h3, h4, h5.keep fun b hb => hk b (by omega)⟩
theorem Curs.below {w w' : World} {g M : Nat} (h : Curs w g M) (hb : Below w.heap.size w w') : Curs w' g M := h.kept (grown_of_below hb none) (fun b e => by cases e)
theorem Curs.more {w : World} {g M K : Nat} (h : Curs w g M) (hk : M ≤ K) : Curs w g K := by
  obtain ⟨a, n, c, k, seed, h1, h2, h3⟩ := h.ex
  exact ⟨a, n, c, k, seed, h1, by omega, h3⟩

theorem u64_wrap (z : Int) : U64 (IntKind.u64.wrap z) := by
  unfold U64
  rw [IntKind.wrap_u64]
  omega
theorem and255 (y : Int) (h : 0 ≤ y) (h2 : y ≤ 18446744073709551615) : 0 ≤ bits BinOp.and IntKind.u64 y 255 ∧ bits BinOp.and IntKind.u64 y 255 ≤ 255 := by
  have h1 := bits_and_u64_nat y.toNat 255 (by omega) (by omega)
  rw [Int.toNat_of_nonneg h] at h1
  have h3 : y.toNat &&& 255 ≤ 255 := Nat.and_le_right
  have e : ((255 : Nat) : Int) = 255 := rfl
  rw [e] at h1
  rw [h1]
  omega
theorem wrap64_small (x : Int) (h : 0 ≤ x ∧ x ≤ 255) : wrap64 x = x := by
  have := PlainAid.i64_is x
  rw [← this]
  exact IntWalk.i64_in x ⟨by omega, by omega⟩
theorem cur_step {w : World} {g M : Nat} {a : Option Addr} {n c k : Nat} {seed : Int} (h1 : w.heap[g]? = some (.cells #[.slice a n c, .int .i64 k, .int .u64 seed] 91 (0, 0))) (h2 : k ≤ M) (h3 : n ≤ 1048576) (h5 : Bts w g a n) (m q : Nat) (s2 : Int) (hs : U64 s2) :
    Curs ((((w.drewN m).setCell ⟨g, 1, none⟩ (.int .i64 ((k : Int) + 1))).setCell ⟨g, 2, none⟩ (.int .u64 s2)).drewN q) g (M + 1) ∧ w.grownBy ((((w.drewN m).setCell ⟨g, 1, none⟩ (.int .i64 ((k : Int) + 1))).setCell ⟨g, 2, none⟩ (.int .u64 s2)).drewN q) (some g) := by
  have hh : ∀ b, b ≠ g → ((((w.drewN m).setCell ⟨g, 1, none⟩ (.int .i64 ((k : Int) + 1))).setCell ⟨g, 2, none⟩ (.int .u64 s2)).drewN q).heap[b]? = w.heap[b]? := by
    intro b hb
    show (((w.drewN m).setCell ⟨g, 1, none⟩ (.int .i64 ((k : Int) + 1))).setCell ⟨g, 2, none⟩ (.int .u64 s2)).heap[b]? = _
    rw [Below.heap_setCell _ _ _ _ (by exact hb), Below.heap_setCell _ _ _ _ (by exact hb)]
    rfl
  have hz : ((((w.drewN m).setCell ⟨g, 1, none⟩ (.int .i64 ((k : Int) + 1))).setCell ⟨g, 2, none⟩ (.int .u64 s2)).drewN q).heap.size = w.heap.size := by
    show (((w.drewN m).setCell ⟨g, 1, none⟩ (.int .i64 ((k : Int) + 1))).setCell ⟨g, 2, none⟩ (.int .u64 s2)).heap.size = _
    simp [World.setCell]
  refine ⟨⟨a, n, c, k + 1, s2, ?_, by omega, h3, hs, h5.keep fun b hb => hh b (by omega)⟩, ⟨rfl, rfl, rfl, by omega, fun b _ hb => hh b (fun e => hb (by rw [e]))⟩⟩
  show (((w.drewN m).setCell ⟨g, 1, none⟩ (.int .i64 ((k : Int) + 1))).setCell ⟨g, 2, none⟩ (.int .u64 s2)).heap[g]? = _
  simp [World.setCell, Array.getElem?_modify, h1]

set_option maxHeartbeats 1000000 in
theorem next_any (g M : Nat) (w : World) (h : Curs w g M) (hM : M ≤ 1048576) :
    Calls Tryz.prog 133 #[.pointer (some ⟨g, 0, none⟩)] w fun e w' => ∃ x : Int, e = .returned (.int .i64 x) ∧ 0 ≤ x ∧ x ≤ 255 ∧ Curs w' g (M + 1) ∧ w.grownBy w' (some g) := by
  obtain ⟨a, n, c, k, seed, h1, h2, h3, h4, h5⟩ := h.ex
  have hc0 : w.cell? ⟨g, 0, none⟩ = some (.slice a n c) := by simp [World.cell?, h1]
  have hc1 : w.cell? ⟨g, 1, none⟩ = some (.int .i64 k) := by simp [World.cell?, h1]
  have hc2 : w.cell? ⟨g, 2, none⟩ = some (.int .u64 seed) := by simp [World.cell?, h1]
  have hf1 : w.frozen? ⟨g, 1, none⟩ = false := by simp [World.frozen?, h1]
  have hf2 : w.frozen? ⟨g, 2, none⟩ = false := by simp [World.frozen?, h1]
  have H1 := Lib.hid h1
  clear h1
  by_cases hlt : k < n
  · obtain ⟨b, off, x, rfl, hb, hx, hx0, hx1⟩ := h5 k hlt
    have hd : decide ((k : Int) < (n : Int)) = true := by simp; omega
    have hi0 : (0 : Int) ≤ (k : Int) := by omega
    have hi1 : (k : Int) < (n : Int) := by omega
    go_enter Tryz.func133, Tryz.ntmps133
    go_wp2
    go_quiet (fail)
    go_wp2
    go_quiet (fail)
    go_wp2
    have hd2 : decide ((k : Int) + 1 ≤ (n : Int)) = true := by simp; omega
    go_quiet (fail)
    go_wp2
    go_ret
    exact ⟨x, rfl, hx0, hx1, cur_step H1.out h2 h3 h5 _ _ _ (u64_wrap _)⟩
  · have hd : decide ((k : Int) < (n : Int)) = false := by simp; omega
    have hd2 : decide ((k : Int) + 1 ≤ (n : Int)) = false := by simp; omega
    go_enter Tryz.func133, Tryz.ntmps133
    go_wp2
    go_quiet (fail)
    go_wp2
    go_quiet (fail)
    go_wp2
    go_ret
    have hw := u64_wrap (IntKind.u64.wrap (IntKind.u64.wrap (seed * 6364136223846793005)) + 1442695040888963407)
    have ha := and255 (IntKind.u64.wrap (IntKind.u64.wrap (IntKind.u64.wrap (seed * 6364136223846793005)) + 1442695040888963407) / 1099511627776) (by have := hw.1; omega) (by have := hw.1; have := hw.2; omega)
    exact ⟨_, ret_int (wrap64_small _ ha), ha.1, ha.2, cur_step H1.out h2 h3 h5 _ _ _ (u64_wrap _)⟩

set_option maxHeartbeats 1000000 in
theorem pick_any (g M : Nat) (n : Int) (w : World) (h : Curs w g M) (hM : M ≤ 1048000) (hn : n ≤ 1048576) :
    Calls Tryz.prog 68 #[.pointer (some ⟨g, 0, none⟩), .int .i64 n] w fun e w' => ∃ x : Int, e = .returned (.int .i64 x) ∧ 0 ≤ x ∧ (x < n ∨ x = 0) ∧ Curs w' g (M + 2) ∧ w.grownBy w' (some g) := by
  by_cases h1 : n ≤ 1
  · go_enter Tryz.func68, Tryz.ntmps68
    go_wp2
    go_ret
    exact ⟨0, rfl, by omega, .inr rfl, h.more (by omega), ⟨rfl, rfl, rfl, Nat.le_refl _, fun _ _ _ => rfl⟩⟩
  · by_cases h2 : 200 < n
    · go_enter Tryz.func68, Tryz.ntmps68
      go_wp2_with fail
      refine (next_any g M _ h (by omega)).mono ?_
      rintro e w1 ⟨x, rfl, hx0, hx1, c1, g1⟩
      go_wp2_with fail
      refine (next_any g (M + 1) _ c1 (by omega)).mono ?_
      rintro e w2 ⟨y, rfl, hy0, hy1, c2, g2⟩
      go_wp2
      go_ret
      exact ⟨_, rfl, Int.emod_nonneg _ (by omega), .inl (Int.emod_lt_of_pos _ (by omega)), c2, g1.trans g2⟩
    · go_enter Tryz.func68, Tryz.ntmps68
      go_wp2_with fail
      refine (next_any g M _ h (by omega)).mono ?_
      rintro e w1 ⟨x, rfl, hx0, hx1, c1, g1⟩
      go_wp2
      go_ret
      exact ⟨_, rfl, Int.emod_nonneg _ (by omega), .inl (Int.emod_lt_of_pos _ (by omega)), c1.more (by omega), g1⟩

set_option maxHeartbeats 400000 in
theorem one_any (g M : Nat) (n : Int) (w : World) (h : Curs w g M) (hM : M ≤ 1048000) (hn : n ≤ 1048576) :
    Calls Tryz.prog 132 #[.pointer (some ⟨g, 0, none⟩), .int .i64 n] w fun e w' => ∃ b : Bool, e = .returned (.bool b) ∧ Curs w' g (M + 2) ∧ w.grownBy w' (some g) := by
  go_enter Tryz.func132, Tryz.ntmps132
  go_wp2_with fail
  refine (pick_any g M n _ h hM hn).mono ?_
  rintro e w1 ⟨x, rfl, hx0, hx1, c1, g1⟩
  clear hx1
  go_wp2
  go_ret
  exact ⟨_, rfl, c1, g1⟩

set_option maxHeartbeats 400000 in
theorem of_any (g M : Nat) (a : Option Addr) (n c : Nat) (l : List ByteArray) (w : World) (h : Curs w g M) (hM : M ≤ 1048000) (hl : Strs w a n l) (h0 : 0 < n) (hn : n ≤ 1000) (hag : ∀ x, a = some x → x.block ≠ g) :
    Calls Tryz.prog 70 #[.pointer (some ⟨g, 0, none⟩), .slice a n c] w fun e w' => ∃ s : ByteArray, s ∈ l ∧ e = .returned (.string s) ∧ Curs w' g (M + 2) ∧ w.grownBy w' (some g) := by
  go_enter Tryz.func70, Tryz.ntmps70
  go_wp2_with fail
  refine (pick_any g M n _ h hM (by omega)).mono ?_
  rintro e w1 ⟨x, rfl, hx0, hx1, c1, g1⟩
  obtain ⟨k, rfl⟩ := Int.eq_ofNat_of_zero_le hx0
  have hk : k < n := by omega
  clear hx1
  obtain ⟨b, off, s, rfl, hs, hsz, hc⟩ := hl.at_ hk
  have hc1 : w1.cell? ⟨b, off + k, none⟩ = some (.string s) := g1.cell hc (fun e => hag _ rfl (by simpa using e))
  have hm := Lib.hid (List.mem_of_getElem? hs)
  clear hs
  go_wp2
  go_ret
  exact ⟨s, hm.out, rfl, c1, g1⟩

/-- The texts that lines are drawn from. -/
def lineTexts : List ByteArray := [⟨#[97]⟩, ⟨#[98]⟩, ⟨#[99]⟩, ⟨#[100]⟩, ⟨#[]⟩, ⟨#[46]⟩, ⟨#[46, 46]⟩, ⟨#[111, 110, 101, 32, 116, 119, 111]⟩, ⟨#[43, 120]⟩, ⟨#[45, 121]⟩, ⟨#[92, 32, 122]⟩, ⟨#[64, 64]⟩]
theorem lineTexts_small : ∀ s ∈ lineTexts, s.size ≤ 7 := by decide

set_option maxHeartbeats 400000 in
theorem line_any (g M : Nat) (w : World) (h : Curs w g M) (hM : M ≤ 1048000) :
    Calls Tryz.prog 181 #[.pointer (some ⟨g, 0, none⟩)] w fun e w' => ∃ s : ByteArray, s.size ≤ 7 ∧ e = .returned (.string s) ∧ Curs w' g (M + 2) ∧ w.grownBy w' (some g) := by
  have hlt := h.lt
  go_enter Tryz.func181, Tryz.ntmps181
  go_wp2_with fail
  refine (of_any g M _ 12 12 lineTexts _ (h.below (below_alloc _ _)) hM (strs_lit w lineTexts (by decide) (fun s hs => by have := lineTexts_small s hs; unfold maxLen; omega)) (by omega) (by omega) (fun x e => by injection e with e; subst e; simp; omega)).mono ?_
  rintro e w1 ⟨s, hs, rfl, c1, g1⟩
  have hs2 := lineTexts_small s hs
  clear hs
  go_wp2
  go_ret
  exact ⟨s, hs2, rfl, c1, (grown_alloc (grown_refl w _) _).trans g1⟩

theorem size_nl (s : ByteArray) : (s ++ (⟨#[10]⟩ : ByteArray)).size = s.size + 1 := by simp [ByteArray.size_append]; rfl

theorem small_set {l : List ByteArray} {t : ByteArray} {K k : Nat} (h : ∀ s ∈ l, s.size ≤ K) (ht : t.size ≤ K) : ∀ s ∈ l.set k t, s.size ≤ K := by
  intro s hs
  rcases List.mem_or_eq_of_mem_set hs with h1 | h1
  · exact h s h1
  · rw [h1]; exact ht

/-- The bytes of an argument, in a world. -/
def Bytes (w : World) (a : Option Addr) (n : Nat) : Prop := n ≤ maxLen ∧ ∀ k, k < n → ∃ b off x, a = some ⟨b, off, none⟩ ∧ w.cell? ⟨b, off + k, none⟩ = some (.int .u8 x) ∧ 0 ≤ x ∧ x ≤ 255
theorem Bytes.below {w w' : World} {a : Option Addr} {n : Nat} (h : Bytes w a n) (hb : Below w.heap.size w w') : Bytes w' a n :=
  ⟨h.1, fun k hk => by
    obtain ⟨b, off, x, h1, h2, h3⟩ := h.2 k hk
    exact ⟨b, off, x, h1, cell_keep hb h2, h3⟩⟩
open Go.ChangeShapes Go.WideShapes in
theorem bytes_of_trod {H : Type} {enc : TypeId × Value → H} {P : Program} {w : World} {base : Nat} {spare : Nat → Bool} {held : Bool} {t e : TypeId} {a : Option Addr} {n c : Nat} {d : DataW H} {ps : List MemPlace}
    (ht : P.underlying t = some (.slice e)) (he : P.underlying e = some (.int .u8)) (hc : P.cellsOf e = 1) (h : DataW.Trod enc P w base spare held t (.slice a n c) d ps) : Bytes w a n := by
  obtain ⟨fuel, hf⟩ := h
  rcases open_ints ht he hc hf with ⟨hcs, _⟩ | ⟨x, len, cap, zs, hcs, _, hl, hm, hz, _, hcell, hwz⟩
  · simp [Value.cells] at hcs
    obtain ⟨rfl, rfl, rfl⟩ := hcs
    exact ⟨Nat.zero_le _, fun k hk => by omega⟩
  · simp [Value.cells] at hcs
    obtain ⟨rfl, rfl, rfl⟩ := hcs
    have hlen : n ≤ zs.length := by rw [hz]; split <;> omega
    refine ⟨by omega, fun k hk => ?_⟩
    have h1 := hcell k (by omega)
    have h2 : (Lit.int .u8 (zs.getD k 0)).wf = true := hwz _ (by
      have hk2 : k < zs.length := by omega
      have e : zs.getD k 0 = zs[k] := by simp [hk2]
      rw [e]; exact List.getElem_mem hk2)
    have h3 : 0 ≤ zs.getD k 0 ∧ zs.getD k 0 ≤ 255 := by simpa [Lit.wf, IntKind.min, IntKind.max, IntKind.signed, IntKind.bits] using h2
    obtain ⟨b, off, spot⟩ := x
    have h0 := hcell 0 (by omega)
    have hs0 : spot = none := by simpa [Addr.add] using World.cell?_spot h0
    subst hs0
    refine ⟨b, off, zs.getD k 0, rfl, ?_, h3.1, h3.2⟩
    by_cases hk0 : k = 0
    · subst hk0; simpa [Addr.add] using h1
    · simpa [Addr.add, hk0] using h1
theorem Curs.new {w : World} {a : Option Addr} {n c : Nat} (h : Bytes w a n) (hn : n ≤ 1048576) : Curs (w.alloc (.cells #[.slice a n c, .int .i64 0, .int .u64 0] 91)) w.heap.size 0 := by
  refine ⟨a, n, c, 0, 0, heap_alloc_new w _, Nat.le_refl _, hn, ⟨by omega, by omega⟩, fun k hk => ?_⟩
  obtain ⟨b, off, x, h1, h2, h3⟩ := h.2 k hk
  exact ⟨b, off, x, h1, cell_lt h2, cell_keep (below_alloc w _) h2, h3⟩
theorem below_new {w w' : World} {o : Obj} (h : (w.alloc o).grownBy w' (some w.heap.size)) : Below w.heap.size w w' :=
  (below_alloc w o).grown h (by simp) (fun b e => by injection e with e; omega)

set_option maxHeartbeats 400000 in
theorem big_any (a b : Option Addr) (n m c d : Nat) (w : World) (hn : n ≤ maxLen) (hm : m ≤ maxLen) :
    Calls Tryz.prog 9 #[.slice a n c, .slice b m d] w fun e w' => e = .returned (.bool (decide (1048576 < n + m))) ∧ w = w' := by
  unfold maxLen at hn hm
  by_cases h1 : 1048576 < n
  · have hd : decide ((1048576 : Int) < (n : Int)) = true := by simp; omega
    go_enter Tryz.func9, Tryz.ntmps9
    go_wp2
    go_ret
    exact ⟨ret_bool (by simp; omega), rfl⟩
  · have hd : decide ((1048576 : Int) < (n : Int)) = false := by simp; omega
    go_enter Tryz.func9, Tryz.ntmps9
    go_wp2
    go_ret
    exact ⟨ret_bool (by rw [Bool.eq_iff_iff]; simp; omega), rfl⟩

end Go.Proofs.YtnnaigoomipklaaGreatDoor
