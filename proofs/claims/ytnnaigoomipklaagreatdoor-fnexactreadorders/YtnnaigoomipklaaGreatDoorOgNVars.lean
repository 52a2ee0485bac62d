/-
  What the listed package-level variables of the library hold: carried along a walk.
-/
import Derived.Test.YtnnaigoomipklaaGreatDoorProg
import Derived.Test.YtnnaigoomipklaaGreatDoorOgMemT
import Derived.Test.YtnnaigoomipklaaGreatDoorOgNBase
import Derived.Test.YtnnaigoomipklaaGreatDoorOgShelf
import Derived.Lib.LaidTab
import Derived.LaidLaws
import Derived.Lib.AtoiErrMem
set_option linter.unusedSimpArgs false
set_option linter.unusedVariables false
namespace Go.Proofs.YtnnaigoomipklaaGreatDoor
open Go.RowKit Go.Lib M

theorem var_keep {W W' : World} {g : Nat} {n : String} {cs : Array Value} (hg : Tryz.prog.globalNamed n = some g) (h : W.var? Tryz.prog n = some cs) (hb : Below W.heap.size W W') : W'.var? Tryz.prog n = some cs := by
  simp only [World.var?, hg, Option.bind_some] at h ⊢
  have hlt : g < W.heap.size := by
    apply Decidable.byContradiction
    intro h'
    rw [Array.getElem?_eq_none (by omega)] at h
    cases h
  rw [hb.block g hlt]
  exact h

theorem gTab : Tryz.prog.globalNamed "internal/strconv.uint64pow10" = some 2 := by kernel_rfl
theorem gSyn : Tryz.prog.globalNamed "strconv.ErrSyntax" = some 5 := by kernel_rfl
theorem gRng : Tryz.prog.globalNamed "strconv.ErrRange" = some 6 := by kernel_rfl

/-- The powers of ten lie there. -/
def Tab (w : World) : Prop := Lib.TabIs Tryz.prog w "internal/strconv.uint64pow10" .u64 Lib.pow10Tab
theorem Tab.below {w w' : World} (h : Tab w) (hb : Below w.heap.size w w') : Tab w' := var_keep gTab h hb

/-- What strconv and strings read of the library's own variables. -/
structure Vars (w : World) : Prop where
  tab : Tab w
  syn : ∃ tp p, w.var? Tryz.prog "strconv.ErrSyntax" = some #[.iface tp p]
  rng : ∃ tp p, w.var? Tryz.prog "strconv.ErrRange" = some #[.iface tp p]
  big : ∃ m, w.cell? ⟨1, 0, none⟩ = some (.int .i64 m)

theorem Vars.below {w w' : World} (h : Vars w) (hb : Below w.heap.size w w') : Vars w' := by
  obtain ⟨t1, p1, e1⟩ := h.syn
  obtain ⟨t2, p2, e2⟩ := h.rng
  obtain ⟨m, e3⟩ := h.big
  exact ⟨h.tab.below hb, ⟨t1, p1, var_keep gSyn e1 hb⟩, ⟨t2, p2, var_keep gRng e2 hb⟩, ⟨m, cell_keep hb e3⟩⟩

theorem below_grow {w : World} (k : Nat) (os : Array Obj) : Below w.heap.size w (Sort.grow (w.drewN k) os) :=
  ⟨rfl, rfl, rfl, by simp [Sort.grow, World.drewN], fun i hi => by simp [Sort.grow, World.drewN, Array.getElem?_append, hi]⟩

/-- A text out of a list of bytes. -/
def bs (l : List UInt8) : ByteArray := ⟨l.toArray⟩
theorem bs_list (l : List UInt8) : (bs l).data.toList = l := by simp [bs]
theorem bs_size (l : List UInt8) : (bs l).size = l.length := by simp [bs, ByteArray.size]
theorem bs_self (s : ByteArray) : bs s.data.toList = s := by cases s; simp [bs]
theorem bs_app (a b : List UInt8) : bs a ++ bs b = bs (a ++ b) := by
  apply ByteArray.ext
  simp [bs]

theorem Itoa_any (n : Nat) (h : n ≤ 100000) (w : World) (ht : Tab w) :
    Calls Tryz.prog 173 #[.int .i64 (n : Int)] w fun e w' => e = .returned (.string (bs (Lib.decDigits n))) ∧ Below w.heap.size w w' := by
  refine (Tryz.strconv_Itoa (n : Int) (by omega) (by omega) w ht).mono ?_
  rintro e w' ⟨rfl, k, os, rfl⟩
  refine ⟨?_, below_grow k os⟩
  unfold Lib.itoa
  rw [if_neg (by omega), Int.toNat_natCast]
  rfl

theorem ItoaI_any (n : Int) (h0 : 0 ≤ n) (h : n ≤ 100000) (w : World) (ht : Tab w) :
    Calls Tryz.prog 173 #[.int .i64 n] w fun e w' => e = .returned (.string (bs (Lib.itoa n))) ∧ Below w.heap.size w w' := by
  refine (Tryz.strconv_Itoa n (by omega) (by omega) w ht).mono ?_
  rintro e w' ⟨rfl, k, os, rfl⟩
  exact ⟨rfl, below_grow k os⟩

/-- strconv.Atoi at every text: a number and no fault, or a fault. -/
theorem Atoi_any (s : ByteArray) (hs : s.size ≤ 2097152) (w : World) (hv : Vars w) :
    Calls Tryz.prog 244 #[.string s] w fun e w' => ((∃ v, Lib.atoiAll s.data.toList = .ok v ∧ e = .returned (.tuple #[.int .i64 v, .nilIface])) ∨
      ((∀ v, Lib.atoiAll s.data.toList ≠ .ok v) ∧ ∃ v t x, e = .returned (.tuple #[.int .i64 v, .iface t x]))) ∧ Below w.heap.size w w' := by
  cases h : Lib.atoiAll s.data.toList with
  | ok v =>
    refine (Tryz.strconv_Atoi_ok s (by omega) v h w).mono ?_
    rintro e w' ⟨rfl, hw⟩
    refine ⟨.inl ⟨v, rfl, rfl⟩, ?_⟩
    rcases hw with rfl | ⟨t, rfl⟩
    · exact Below.refl _ _
    · exact bytesWorld_below _ _ _
  | «syntax» =>
    obtain ⟨tp, p, e1⟩ := hv.syn
    refine (Tryz.strconv_Atoi_syntax_var s (by omega) h tp p w e1).mono ?_
    rintro e w' ⟨N, rfl, _, _, hb⟩
    exact ⟨.inr ⟨(fun v hv => by cases hv), _, _, _, rfl⟩, hb⟩
  | range =>
    obtain ⟨tp, p, e1⟩ := hv.rng
    refine (Tryz.strconv_Atoi_range_var s (by omega) h tp p w e1).mono ?_
    rintro e w' ⟨N, rfl, _, _, hb⟩
    exact ⟨.inr ⟨(fun v hv => by cases hv), _, _, _, rfl⟩, hb⟩

theorem Cut_any (s : ByteArray) (hs : s.size ≤ 2097152) (w : World) (hv : Vars w) :
    Calls Tryz.prog 178 #[.string s, .string ⟨#[44]⟩] w fun e w' => e = .returned (.tuple #[.string (bs (Lib.cut s.data.toList [44]).1), .string (bs (Lib.cut s.data.toList [44]).2.1), .bool (Lib.cut s.data.toList [44]).2.2]) ∧ Below w.heap.size w w' := by
  obtain ⟨m, hm⟩ := hv.big
  refine (Tryz.strings_Cut s ⟨#[44]⟩ m w (by omega) hm).mono ?_
  rintro e w' ⟨rfl, n, rfl⟩
  exact ⟨rfl, below_drewN (Below.refl _ _) n⟩

end Go.Proofs.YtnnaigoomipklaaGreatDoor
