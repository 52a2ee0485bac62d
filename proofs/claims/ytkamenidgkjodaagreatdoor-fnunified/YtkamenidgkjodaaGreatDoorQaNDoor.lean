/-
  From what a row lists of the library's variables to what a walk takes of them; the wrap of a contract that takes the world's shape too.
  What is drawn for chapter 4: ranges and texts.
  Plain facts on steps and their text, the plain way: no Go, no program.
  Plain facts on lists of steps that the laws' own functions need: no Go, no program.
  Plain facts on steps made of hunks and hunks made of steps: no Go, no program.
  Plain facts: the steps of hunks that Patch takes are good, and lead to the hunks again: no Go, no program.
-/
import Derived.Test.YtkamenidgkjodaaGreatDoorRows
import Derived.Test.YtkamenidgkjodaaGreatDoorQaNVars
import Derived.Stop.LaidErr
import Derived.LaidMore
import Derived.LaidHandle
import Derived.ProofKit
import Derived.Stop.Joined
import Derived.HandedShaped
import Derived.Test.YtkamenidgkjodaaGreatDoorQaDraw
import Derived.Test.YtkamenidgkjodaaGreatDoorQaNBase
import Derived.Test.YtkamenidgkjodaaGreatDoorQaHDrawAB
import Derived.Test.YtkamenidgkjodaaGreatDoorQaHBases
set_option linter.unusedSimpArgs false
set_option linter.unusedVariables false
namespace Go.Proofs.YtkamenidgkjodaaGreatDoor
open Go.RowKit Go.Lib M

theorem rTab : (Rows.laid_internal_strconv_uint64pow10 : DataW Unit) = Lib.tabData .u64 Lib.pow10Tab := by kernel_rfl

theorem tab_of_head {W : World} {r : List (String × DataW Unit)} (h : laidMet Tryz.prog (("internal/strconv.uint64pow10", Rows.laid_internal_strconv_uint64pow10) :: r) W) : Tab W := by
  rw [rTab] at h
  exact Lib.tabIs_of_head gTab (by kernel_rfl) Tryz.underlying180 Tryz.underlying75 (by kernel_rfl) (by kernel_rfl) h

theorem starE : "*" ++ "errors.errorString" = "*errors.errorString" := by decide
theorem rowE (u : TypeId) (h : Tryz.prog.typeName? 3 u = some "*errors.errorString") : u = 198 :=
  typeName_ptr_named (nm := "errors.errorString") (by rw [starE]; kernel_rfl) (by kernel_rfl) (by decide) u (by rw [starE]; exact h)

theorem syn_of_head {W : World} {r : List (String × DataW Unit)} (h : laidMet Tryz.prog (("strconv.ErrSyntax", Rows.laid_strconv_ErrSyntax) :: r) W) : ∃ tp p, W.var? Tryz.prog "strconv.ErrSyntax" = some #[.iface tp p] := by
  obtain ⟨a, s, hv, -, -, -⟩ := laid_sentinel h gSyn (ti := 53) (by kernel_rfl) Tryz.underlying53 rowE Tryz.underlying198 Tryz.underlying200 rfl rfl Tryz.underlying9 (by kernel_rfl) (by kernel_rfl)
  exact ⟨_, _, hv⟩
theorem rng_of_head {W : World} {r : List (String × DataW Unit)} (h : laidMet Tryz.prog (("strconv.ErrRange", Rows.laid_strconv_ErrRange) :: r) W) : ∃ tp p, W.var? Tryz.prog "strconv.ErrRange" = some #[.iface tp p] := by
  obtain ⟨a, s, hv, -, -, -⟩ := laid_sentinel h gRng (ti := 53) (by kernel_rfl) Tryz.underlying53 rowE Tryz.underlying198 Tryz.underlying200 rfl rfl Tryz.underlying9 (by kernel_rfl) (by kernel_rfl)
  exact ⟨_, _, hv⟩

/-- The list of three tables. -/
abbrev laid3 : List (String × DataW Unit) := [("math/bits.deBruijn32tab", Rows.laid_math_bits_deBruijn32tab), ("math/bits.deBruijn64tab", Rows.laid_math_bits_deBruijn64tab), ("internal/strconv.uint64pow10", Rows.laid_internal_strconv_uint64pow10)]
/-- Them and the two faults (variables 5 and 4). -/
abbrev laid5 : List (String × DataW Unit) := laid3 ++ [("strconv.ErrRange", Rows.laid_strconv_ErrRange), ("strconv.ErrSyntax", Rows.laid_strconv_ErrSyntax)]

/-- The wrap: a contract under a condition on the world that hangs on the heap alone, handed the reach and the world's shape. -/
theorem handed_shaped {H : Type} {enc : TypeId × Value → H} {a : Assume} {C : Checked} {os : Os} {f : FuncId} {fn : Func} {s : ChangeSpec} {conds : List PathCond} {apart fresh handsOn again : Bool} {X : World → Array Value → Prop}
    (hX : ∀ (w w' : World) (args : Array Value), w.heap = w'.heap → X w args → X w' args)
    (own : ownKnob C.prog.godebug = none) (started : os.Started) (noInit : C.prog.inits.idxOf? f = none) (hfn : C.prog.funcs[f]? = some fn)
    (witness : ∃ (w : World) (tape : Tape) (i : Input), w.os = os ∧ (w.forCall tape i).Shaped C.prog ∧ i.vars = [] ∧ Input.okWide C.prog (w.forCall tape i) .any w.heap.size f i ∧
      ((s.pre enc C.prog fn conds apart (w.forCall tape i).memory i.args ∧ X (w.forCall tape i).memory i.args) ∧ sizedMet enc C.prog fn (OpenSpec.ofChange s) apart (w.forCall tape i).memory i.args) ∧ a.holds C.prog (lone (Frame.enter C.prog f i.args .normal) [] (w.forCall tape i)))
    (contract : ∀ (W : World) (base : Nat) (args : Array Value) (ds gs : List (DataW H)) (before : List MemPlace),
      (∀ (j : Nat) t v, fn.params[j]? = some t → args[j]? = some v → Value.okWide C.prog W .any base t v) →
      DataW.Whole enc C.prog fn.params.toList s.vars apart W args.toList ds gs before → X W args → W.ShapedOpen C.prog →
      Calls C.prog f args W fun e W' => ∃ v, e = .returned v ∧ s.post enc C.prog fn apart fresh handsOn again W args v W') :
    ReturnsInHanded a C os f .any (fun w args => (s.pre enc C.prog fn conds apart w args ∧ X w args) ∧ sizedMet enc C.prog fn (OpenSpec.ofChange s) apart w args) (s.post enc C.prog fn apart fresh handsOn again) := by
  refine returnsInHanded_of_calls own started noInit witness ?_
  rintro w tape i _ shape _ ⟨_, _, _, fn', isFn, _, _, _, _, fits⟩ ⟨⟨⟨ds, gs, before, whole, _⟩, cond⟩, _⟩ _
  cases Option.some.inj (isFn.symm.trans hfn)
  refine (contract (w.forCall tape i) w.heap.size i.args ds gs before fits (DataW.Whole.of_heap (w' := w.forCall tape i) (by rfl) whole) (hX _ _ _ (by rfl) cond) shape).mono fun e W' h => ?_
  obtain ⟨v, rfl, hp⟩ := h
  exact ChangeSpec.post_blind hp

end Go.Proofs.YtkamenidgkjodaaGreatDoor

namespace Go.Proofs.YtkamenidgkjodaaGreatDoor
open Go.RowKit M

def ints (zs : List Int) : Array Value := (zs.map (Value.int .i64)).toArray

set_option maxHeartbeats 400000 in
theorem amongN_any (g M bl n : Nat) (zs : List Int) (w : World) (h : Curs w g M) (hM : M ≤ 1048000) (hb : w.heap[bl]? = some (.cells (ints zs) 3 (0, 0))) (hbg : bl ≠ g) (hn : zs.length = n) (h0 : 0 < n) (h1 : n ≤ 1000) :
    Calls Tryz.prog 87 #[.pointer (some ⟨g, 0, none⟩), .slice (some ⟨bl, 0, none⟩) n n] w fun e w' => ∃ x : Int, x ∈ zs ∧ e = .returned (.int .i64 x) ∧ Curs w' g (M + 2) ∧ w.grownBy w' (some g) := by
  have HB := Lib.hid hb
  have hlt := (Array.getElem?_eq_some_iff.1 hb).1
  clear hb
  go_enter Tryz.func87, Tryz.ntmps87
  go_wp2_with fail
  refine (pick_any g M n _ h hM (by omega)).mono ?_
  rintro e w1 ⟨x, rfl, hx0, hx1, c1, g1⟩
  have hb1 : w1.heap[bl]? = some (.cells (ints zs) 3 (0, 0)) := (g1.block bl hlt (by simp; exact hbg)).trans HB.out
  obtain ⟨k, rfl⟩ := Int.eq_ofNat_of_zero_le hx0
  have hk : k < n := by omega
  have hkz : k < zs.length := by omega
  have hc : w1.cell? ⟨bl, k, none⟩ = some (.int .i64 (zs[k]'hkz)) := by simp [World.cell?, hb1, ints, hkz]
  obtain ⟨z, hz⟩ : ∃ z, z = zs[k]'hkz := ⟨_, rfl⟩
  have HZ := Lib.hid (show z ∈ zs by rw [hz]; exact List.getElem_mem hkz)
  rw [← hz] at hc
  clear hx0 hx1 hz hb1
  go_wp2
  go_ret
  exact ⟨z, HZ.out, rfl, c1, g1⟩

end Go.Proofs.YtkamenidgkjodaaGreatDoor

namespace Go.Proofs.YtkamenidgkjodaaGreatDoor.M
open Go

def endsL (l : List UInt8) : Bool := l.getLast? == some 10
def noneL : List UInt8 := [92, 32, 110, 111, 110, 101, 10]
/-- A line that is shown with a sign, in one line or two. -/
def shownL (sign s : List UInt8) : List (List UInt8) := if endsL s then [sign ++ s] else [sign ++ s ++ [10], noneL]

/-! Lines cut. -/

/-! Shown lines taken. -/

/-! Heads read. -/

/-! Steps read. -/

/-! Every line of a step's text ends in a byte 10 and has no other. -/

theorem line_no10 {s : ByteArray} (h : lineB s = true) : (10 : UInt8) ∉ s.data.toList.dropLast := by
  unfold lineB at h
  simp only [Bool.and_eq_true] at h
  intro hm
  have := List.all_eq_true.1 h.2 10 hm
  simp at this

end Go.Proofs.YtkamenidgkjodaaGreatDoor.M

namespace Go.Proofs.YtkamenidgkjodaaGreatDoor.M
open Go

/-! Hunks made of steps. -/

end Go.Proofs.YtkamenidgkjodaaGreatDoor.M

