/-
  Each kind of order, the program's: whether it is good; an order behind its kind.
-/
import Derived.Test.YtnnaigoomipklaaGreatDoorOgOGoodI
import Derived.StillTailTactics
set_option linter.unusedSimpArgs false
set_option linter.unusedVariables false
namespace Go.Proofs.YtnnaigoomipklaaGreatDoor
open Go.RowKit Go.ChangeShapes Go.WideShapes M

set_option maxHeartbeats 1000000 in
theorem addGood_any (x : Od) (hk : x.kd = 1) (A : Option Addr) (m c : Nat) (w : World) (hl : Strs w A m x.new) :
    Calls Tryz.prog 288 #[.agg #[.int .i64 x.fr, .int .i64 x.to_, .slice A m c]] w fun e w' => e = .returned (.bool (orderB x)) ∧ Below w.heap.size w w' := by
  have HF := Lib.hid (orderB_1 hk)
  clear hk
  obtain ⟨W, HW⟩ : ∃ W, Hid (W = w.alloc (.cells #[.int .i64 x.fr, .int .i64 x.to_, .slice A m c] 193)) := ⟨_, rfl⟩
  have HB := Lib.hid (show Below w.heap.size w W by rw [HW.out]; exact below_alloc w _)
  have HC := Lib.hid (show SpanC W w.heap.size x A m c by rw [HW.out]; exact SpanC.new w x A m c _)
  obtain ⟨k0, k1, k2⟩ := HC.out
  cases h1 : fromB x 0
  · have hf := Lib.hid (show orderB x = false by rw [HF.out, h1]; rfl)
    have H1 := Lib.hid h1
    clear h1
    go_enter Tryz.func288, Tryz.ntmps288
    go_wp2_with fail
    rw [← HW.out]
    refine (isFrom_any x 0 A m c _).mono ?_
    rintro e w1 ⟨rfl, b1⟩
    rw [H1.out]
    go_wp2
    go_ret
    exact ⟨ret_bool hf.out.symm, HB.out.next b1⟩
  cases h2 : oneB x
  · have hf := Lib.hid (show orderB x = false by rw [HF.out, h1, h2]; rfl)
    have H1 := Lib.hid h1
    have H2 := Lib.hid h2
    clear h1 h2
    go_enter Tryz.func288, Tryz.ntmps288
    go_wp2_with fail
    rw [← HW.out]
    refine (isFrom_any x 0 A m c _).mono ?_
    rintro e w1 ⟨rfl, b1⟩
    rw [H1.out]
    obtain ⟨k0, k1, k2⟩ := HC.out.below b1
    go_wp2_with fail
    refine (isOne_any x A m c _).mono ?_
    rintro e w2 ⟨rfl, b2⟩
    rw [H2.out]
    go_wp2
    go_ret
    exact ⟨ret_bool hf.out.symm, (HB.out.next b1).next b2⟩
  · have hf := Lib.hid (show orderB x = linesO x.new by rw [HF.out, h1, h2]; rfl)
    have H1 := Lib.hid h1
    have H2 := Lib.hid h2
    clear h1 h2
    go_enter Tryz.func288, Tryz.ntmps288
    go_wp2_with fail
    rw [← HW.out]
    refine (isFrom_any x 0 A m c _).mono ?_
    rintro e w1 ⟨rfl, b1⟩
    rw [H1.out]
    obtain ⟨k0, k1, k2⟩ := HC.out.below b1
    go_wp2_with fail
    refine (isOne_any x A m c _).mono ?_
    rintro e w2 ⟨rfl, b2⟩
    rw [H2.out]
    obtain ⟨k0, k1, k2⟩ := (HC.out.below b1).below b2
    go_wp2_with fail
    refine (spanBrings_any x A m c _ (hl.below ((HB.out.next b1).next b2))).mono ?_
    rintro e w3 ⟨rfl, b3⟩
    go_wp2
    go_ret
    exact ⟨ret_bool hf.out.symm, ((HB.out.next b1).next b2).next b3⟩

set_option maxHeartbeats 1000000 in
theorem putGood_any (x : Od) (hk : x.kd = 2) (A : Option Addr) (m c : Nat) (w : World) (hl : Strs w A m x.new) :
    Calls Tryz.prog 294 #[.agg #[.int .i64 x.fr, .int .i64 x.to_, .slice A m c]] w fun e w' => e = .returned (.bool (orderB x)) ∧ Below w.heap.size w w' := by
  have HF := Lib.hid (orderB_2 hk)
  clear hk
  obtain ⟨W, HW⟩ : ∃ W, Hid (W = w.alloc (.cells #[.int .i64 x.fr, .int .i64 x.to_, .slice A m c] 194)) := ⟨_, rfl⟩
  have HB := Lib.hid (show Below w.heap.size w W by rw [HW.out]; exact below_alloc w _)
  have HC := Lib.hid (show SpanC W w.heap.size x A m c by rw [HW.out]; exact SpanC.new w x A m c _)
  obtain ⟨k0, k1, k2⟩ := HC.out
  cases h1 : fromB x 1
  · have hf := Lib.hid (show orderB x = false by rw [HF.out, h1]; rfl)
    have H1 := Lib.hid h1
    clear h1
    go_enter Tryz.func294, Tryz.ntmps294
    go_wp2_with fail
    rw [← HW.out]
    refine (isFrom_any x 1 A m c _).mono ?_
    rintro e w1 ⟨rfl, b1⟩
    rw [H1.out]
    go_wp2
    go_ret
    exact ⟨ret_bool hf.out.symm, HB.out.next b1⟩
  cases h2 : oneB x
  · have hf := Lib.hid (show orderB x = false by rw [HF.out, h1, h2]; rfl)
    have H1 := Lib.hid h1
    have H2 := Lib.hid h2
    clear h1 h2
    go_enter Tryz.func294, Tryz.ntmps294
    go_wp2_with fail
    rw [← HW.out]
    refine (isFrom_any x 1 A m c _).mono ?_
    rintro e w1 ⟨rfl, b1⟩
    rw [H1.out]
    obtain ⟨k0, k1, k2⟩ := HC.out.below b1
    go_wp2_with fail
    refine (isOne_any x A m c _).mono ?_
    rintro e w2 ⟨rfl, b2⟩
    rw [H2.out]
    go_wp2
    go_ret
    exact ⟨ret_bool hf.out.symm, (HB.out.next b1).next b2⟩
  · have hf := Lib.hid (show orderB x = linesO x.new by rw [HF.out, h1, h2]; rfl)
    have H1 := Lib.hid h1
    have H2 := Lib.hid h2
    clear h1 h2
    go_enter Tryz.func294, Tryz.ntmps294
    go_wp2_with fail
    rw [← HW.out]
    refine (isFrom_any x 1 A m c _).mono ?_
    rintro e w1 ⟨rfl, b1⟩
    rw [H1.out]
    obtain ⟨k0, k1, k2⟩ := HC.out.below b1
    go_wp2_with fail
    refine (isOne_any x A m c _).mono ?_
    rintro e w2 ⟨rfl, b2⟩
    rw [H2.out]
    obtain ⟨k0, k1, k2⟩ := (HC.out.below b1).below b2
    go_wp2_with fail
    refine (spanBrings_any x A m c _ (hl.below ((HB.out.next b1).next b2))).mono ?_
    rintro e w3 ⟨rfl, b3⟩
    go_wp2
    go_ret
    exact ⟨ret_bool hf.out.symm, ((HB.out.next b1).next b2).next b3⟩

set_option maxHeartbeats 1000000 in
theorem changeGood_any (x : Od) (hk : x.kd = 3) (A : Option Addr) (m c : Nat) (w : World) (hl : Strs w A m x.new) :
    Calls Tryz.prog 295 #[.agg #[.int .i64 x.fr, .int .i64 x.to_, .slice A m c]] w fun e w' => e = .returned (.bool (orderB x)) ∧ Below w.heap.size w w' := by
  have HF := Lib.hid (orderB_3 hk)
  clear hk
  obtain ⟨W, HW⟩ : ∃ W, Hid (W = w.alloc (.cells #[.int .i64 x.fr, .int .i64 x.to_, .slice A m c] 195)) := ⟨_, rfl⟩
  have HB := Lib.hid (show Below w.heap.size w W by rw [HW.out]; exact below_alloc w _)
  have HC := Lib.hid (show SpanC W w.heap.size x A m c by rw [HW.out]; exact SpanC.new w x A m c _)
  obtain ⟨k0, k1, k2⟩ := HC.out
  cases h1 : fromB x 1
  · have hf := Lib.hid (show orderB x = false by rw [HF.out, h1]; rfl)
    have H1 := Lib.hid h1
    clear h1
    go_enter Tryz.func295, Tryz.ntmps295
    go_wp2_with fail
    rw [← HW.out]
    refine (isFrom_any x 1 A m c _).mono ?_
    rintro e w1 ⟨rfl, b1⟩
    rw [H1.out]
    go_wp2
    go_ret
    exact ⟨ret_bool hf.out.symm, HB.out.next b1⟩
  · have hf := Lib.hid (show orderB x = linesO x.new by rw [HF.out, h1]; rfl)
    have H1 := Lib.hid h1
    clear h1
    go_enter Tryz.func295, Tryz.ntmps295
    go_wp2_with fail
    rw [← HW.out]
    refine (isFrom_any x 1 A m c _).mono ?_
    rintro e w1 ⟨rfl, b1⟩
    rw [H1.out]
    obtain ⟨k0, k1, k2⟩ := HC.out.below b1
    go_wp2_with fail
    refine (spanBrings_any x A m c _ (hl.below (HB.out.next b1))).mono ?_
    rintro e w3 ⟨rfl, b3⟩
    go_wp2
    go_ret
    exact ⟨ret_bool hf.out.symm, (HB.out.next b1).next b3⟩

set_option maxHeartbeats 1000000 in
theorem dropGood_any (x : Od) (hk : x.kd = 4) (A : Option Addr) (m c : Nat) (w : World) (hl : Strs w A m x.new) :
    Calls Tryz.prog 296 #[.agg #[.int .i64 x.fr, .int .i64 x.to_, .slice A m c]] w fun e w' => e = .returned (.bool (orderB x)) ∧ Below w.heap.size w w' := by
  have HF := Lib.hid (orderB_4 hk)
  rw [hl.len] at HF
  clear hk
  obtain ⟨W, HW⟩ : ∃ W, Hid (W = w.alloc (.cells #[.int .i64 x.fr, .int .i64 x.to_, .slice A m c] 196)) := ⟨_, rfl⟩
  have HB := Lib.hid (show Below w.heap.size w W by rw [HW.out]; exact below_alloc w _)
  have HC := Lib.hid (show SpanC W w.heap.size x A m c by rw [HW.out]; exact SpanC.new w x A m c _)
  obtain ⟨k0, k1, k2⟩ := HC.out
  cases h1 : fromB x 1
  · have hf := Lib.hid (show orderB x = false by rw [HF.out, h1]; rfl)
    have H1 := Lib.hid h1
    clear h1
    go_enter Tryz.func296, Tryz.ntmps296
    go_wp2_with fail
    rw [← HW.out]
    refine (isFrom_any x 1 A m c _).mono ?_
    rintro e w1 ⟨rfl, b1⟩
    rw [H1.out]
    go_wp2
    go_ret
    exact ⟨ret_bool hf.out.symm, HB.out.next b1⟩
  · have hf := Lib.hid (show orderB x = decide (m = 0) by rw [HF.out, h1]; rfl)
    have H1 := Lib.hid h1
    clear h1
    go_enter Tryz.func296, Tryz.ntmps296
    go_wp2_with fail
    rw [← HW.out]
    refine (isFrom_any x 1 A m c _).mono ?_
    rintro e w1 ⟨rfl, b1⟩
    rw [H1.out]
    obtain ⟨k0, k1, k2⟩ := HC.out.below b1
    go_wp2_with fail
    refine (bringsNone_any x A m c _).mono ?_
    rintro e w3 ⟨rfl, b3⟩
    go_wp2
    go_ret
    exact ⟨ret_bool hf.out.symm, (HB.out.next b1).next b3⟩

set_option maxHeartbeats 1000000 in
theorem fixGood_any (x : Od) (hk : x.kd = 5) (A : Option Addr) (m c : Nat) (w : World) (hl : Strs w A m x.new) :
    Calls Tryz.prog 297 #[.agg #[.int .i64 x.fr, .int .i64 x.to_, .slice A m c]] w fun e w' => e = .returned (.bool (orderB x)) ∧ Below w.heap.size w w' := by
  have HF := Lib.hid (orderB_5 hk)
  rw [hl.len] at HF
  clear hk
  obtain ⟨W, HW⟩ : ∃ W, Hid (W = w.alloc (.cells #[.int .i64 x.fr, .int .i64 x.to_, .slice A m c] 197)) := ⟨_, rfl⟩
  have HB := Lib.hid (show Below w.heap.size w W by rw [HW.out]; exact below_alloc w _)
  have HC := Lib.hid (show SpanC W w.heap.size x A m c by rw [HW.out]; exact SpanC.new w x A m c _)
  obtain ⟨k0, k1, k2⟩ := HC.out
  cases h1 : fromB x 1
  · have hf := Lib.hid (show orderB x = false by rw [HF.out, h1]; rfl)
    have H1 := Lib.hid h1
    clear h1
    go_enter Tryz.func297, Tryz.ntmps297
    go_wp2_with fail
    rw [← HW.out]
    refine (isFrom_any x 1 A m c _).mono ?_
    rintro e w1 ⟨rfl, b1⟩
    rw [H1.out]
    go_wp2
    go_ret
    exact ⟨ret_bool hf.out.symm, HB.out.next b1⟩
  cases h2 : oneB x
  · have hf := Lib.hid (show orderB x = false by rw [HF.out, h1, h2]; rfl)
    have H1 := Lib.hid h1
    have H2 := Lib.hid h2
    clear h1 h2
    go_enter Tryz.func297, Tryz.ntmps297
    go_wp2_with fail
    rw [← HW.out]
    refine (isFrom_any x 1 A m c _).mono ?_
    rintro e w1 ⟨rfl, b1⟩
    rw [H1.out]
    obtain ⟨k0, k1, k2⟩ := HC.out.below b1
    go_wp2_with fail
    refine (isOne_any x A m c _).mono ?_
    rintro e w2 ⟨rfl, b2⟩
    rw [H2.out]
    go_wp2
    go_ret
    exact ⟨ret_bool hf.out.symm, (HB.out.next b1).next b2⟩
  · have hf := Lib.hid (show orderB x = decide (m = 0) by rw [HF.out, h1, h2]; rfl)
    have H1 := Lib.hid h1
    have H2 := Lib.hid h2
    clear h1 h2
    go_enter Tryz.func297, Tryz.ntmps297
    go_wp2_with fail
    rw [← HW.out]
    refine (isFrom_any x 1 A m c _).mono ?_
    rintro e w1 ⟨rfl, b1⟩
    rw [H1.out]
    obtain ⟨k0, k1, k2⟩ := HC.out.below b1
    go_wp2_with fail
    refine (isOne_any x A m c _).mono ?_
    rintro e w2 ⟨rfl, b2⟩
    rw [H2.out]
    obtain ⟨k0, k1, k2⟩ := (HC.out.below b1).below b2
    go_wp2_with fail
    refine (bringsNone_any x A m c _).mono ?_
    rintro e w3 ⟨rfl, b3⟩
    go_wp2
    go_ret
    exact ⟨ret_bool hf.out.symm, ((HB.out.next b1).next b2).next b3⟩

/-- The type of an order behind its kind. -/
def kindT (k : Int) : TypeId := if k = 1 then 193 else if k = 2 then 194 else if k = 3 then 195 else if k = 4 then 196 else 197
/-- An order behind its kind, as a value of the interface. -/
def kindV (x : Od) (A : Option Addr) (m c : Nat) : Value := .iface (kindT x.kd) (.agg #[.int .i64 x.fr, .int .i64 x.to_, .slice A m c])

theorem good_add (a b c : Value) (w : World) : (method 405 193 (.agg #[a, b, c]) "loop.example/g00825/impl.isGood").run Tryz.prog w = .ok (288, .agg #[a, b, c]) w := by kernel_rfl
theorem good_put (a b c : Value) (w : World) : (method 405 194 (.agg #[a, b, c]) "loop.example/g00825/impl.isGood").run Tryz.prog w = .ok (294, .agg #[a, b, c]) w := by kernel_rfl
theorem good_change (a b c : Value) (w : World) : (method 405 195 (.agg #[a, b, c]) "loop.example/g00825/impl.isGood").run Tryz.prog w = .ok (295, .agg #[a, b, c]) w := by kernel_rfl
theorem good_drop (a b c : Value) (w : World) : (method 405 196 (.agg #[a, b, c]) "loop.example/g00825/impl.isGood").run Tryz.prog w = .ok (296, .agg #[a, b, c]) w := by kernel_rfl
theorem good_fix (a b c : Value) (w : World) : (method 405 197 (.agg #[a, b, c]) "loop.example/g00825/impl.isGood").run Tryz.prog w = .ok (297, .agg #[a, b, c]) w := by kernel_rfl

/-- The cells of an order behind a pointer. -/
structure OdC (w : World) (b off : Nat) (x : Od) (A : Option Addr) (m c : Nat) : Prop where
  c0 : w.cell? ⟨b, off, none⟩ = some (.int .i64 x.kd)
  c1 : w.cell? ⟨b, off + 1, none⟩ = some (.int .i64 x.fr)
  c2 : w.cell? ⟨b, off + 2, none⟩ = some (.int .i64 x.to_)
  c3 : w.cell? ⟨b, off + 3, none⟩ = some (.slice A m c)

/-- What orderOf answers. -/
def kindR (x : Od) (A : Option Addr) (m c : Nat) : Value := if x.kd = 1 ∨ x.kd = 2 ∨ x.kd = 3 ∨ x.kd = 4 ∨ x.kd = 5 then .tuple #[kindV x A m c, .bool true] else .tuple #[.nilIface, .bool false]
theorem kindR_yes {x : Od} (A : Option Addr) (m c : Nat) (h : x.kd = 1 ∨ x.kd = 2 ∨ x.kd = 3 ∨ x.kd = 4 ∨ x.kd = 5) : kindR x A m c = .tuple #[kindV x A m c, .bool true] := if_pos h
theorem kindR_no {x : Od} (A : Option Addr) (m c : Nat) (h : ¬ (x.kd = 1 ∨ x.kd = 2 ∨ x.kd = 3 ∨ x.kd = 4 ∨ x.kd = 5)) : kindR x A m c = .tuple #[.nilIface, .bool false] := if_neg h

set_option maxHeartbeats 2000000 in
set_option maxRecDepth 100000 in
theorem orderOf_any (b off : Nat) (x : Od) (A : Option Addr) (m c : Nat) (w : World) (h : OdC w b off x A m c) :
    Calls Tryz.prog 124 #[.pointer (some ⟨b, off, none⟩)] w fun e w' =>
      e = .returned (kindR x A m c) ∧ Below w.heap.size w w' := by
  obtain ⟨h0, h1, h2, h3⟩ := h
  go_enter Tryz.func124, Tryz.ntmps124
  have g0 : ∀ o, (w.alloc o).cell? { block := b, off := off } = some (Value.int IntKind.i64 x.kd) := fun o => cell_keep (below_alloc w o) h0
  have g1 : ∀ o, (w.alloc o).cell? { block := b, off := off + 1 } = some (Value.int IntKind.i64 x.fr) := fun o => cell_keep (below_alloc w o) h1
  have g2 : ∀ o, (w.alloc o).cell? { block := b, off := off + 2 } = some (Value.int IntKind.i64 x.to_) := fun o => cell_keep (below_alloc w o) h2
  have g3 : ∀ o, (w.alloc o).cell? { block := b, off := off + 3 } = some (Value.slice A m c) := fun o => cell_keep (below_alloc w o) h3
  go_wp2
  go_region
  have hb : Below w.heap.size w (w.alloc (.cells #[.int .i64 x.fr, .int .i64 x.to_, .slice A m c] 191)).drew := (below_alloc w _).drew
  by_cases e1 : x.kd = 1
  · have q1 : (x.kd == 1) = true := by simp [e1]
    have hk := Lib.hid (show kindV x A m c = .iface 193 (.agg #[.int .i64 x.fr, .int .i64 x.to_, .slice A m c]) by unfold kindV kindT; rw [if_pos e1])
    have hi := Lib.hid (kindR_yes A m c (by simp [e1] : x.kd = 1 ∨ x.kd = 2 ∨ x.kd = 3 ∨ x.kd = 4 ∨ x.kd = 5))
    clear e1
    go_wp2
    go_ret2
    exact ⟨by rw [hi.out, hk.out]; rfl, hb⟩
  have q1 : (x.kd == 1) = false := by simp [e1]
  by_cases e2 : x.kd = 2
  · have q2 : (x.kd == 2) = true := by simp [e2]
    have hk := Lib.hid (show kindV x A m c = .iface 194 (.agg #[.int .i64 x.fr, .int .i64 x.to_, .slice A m c]) by unfold kindV kindT; rw [if_neg e1, if_pos e2])
    have hi := Lib.hid (kindR_yes A m c (by simp [e2] : x.kd = 1 ∨ x.kd = 2 ∨ x.kd = 3 ∨ x.kd = 4 ∨ x.kd = 5))
    clear e1 e2
    go_wp2
    go_ret2
    exact ⟨by rw [hi.out, hk.out]; rfl, hb⟩
  have q2 : (x.kd == 2) = false := by simp [e2]
  by_cases e3 : x.kd = 3
  · have q3 : (x.kd == 3) = true := by simp [e3]
    have hk := Lib.hid (show kindV x A m c = .iface 195 (.agg #[.int .i64 x.fr, .int .i64 x.to_, .slice A m c]) by unfold kindV kindT; rw [if_neg e1, if_neg e2, if_pos e3])
    have hi := Lib.hid (kindR_yes A m c (by simp [e3] : x.kd = 1 ∨ x.kd = 2 ∨ x.kd = 3 ∨ x.kd = 4 ∨ x.kd = 5))
    clear e1 e2 e3
    go_wp2
    go_ret2
    exact ⟨by rw [hi.out, hk.out]; rfl, hb⟩
  have q3 : (x.kd == 3) = false := by simp [e3]
  by_cases e4 : x.kd = 4
  · have q4 : (x.kd == 4) = true := by simp [e4]
    have hk := Lib.hid (show kindV x A m c = .iface 196 (.agg #[.int .i64 x.fr, .int .i64 x.to_, .slice A m c]) by unfold kindV kindT; rw [if_neg e1, if_neg e2, if_neg e3, if_pos e4])
    have hi := Lib.hid (kindR_yes A m c (by simp [e4] : x.kd = 1 ∨ x.kd = 2 ∨ x.kd = 3 ∨ x.kd = 4 ∨ x.kd = 5))
    clear e1 e2 e3 e4
    go_wp2
    go_ret2
    exact ⟨by rw [hi.out, hk.out]; rfl, hb⟩
  have q4 : (x.kd == 4) = false := by simp [e4]
  by_cases e5 : x.kd = 5
  · have q5 : (x.kd == 5) = true := by simp [e5]
    have hk := Lib.hid (show kindV x A m c = .iface 197 (.agg #[.int .i64 x.fr, .int .i64 x.to_, .slice A m c]) by unfold kindV kindT; rw [if_neg e1, if_neg e2, if_neg e3, if_neg e4])
    have hi := Lib.hid (kindR_yes A m c (by simp [e5] : x.kd = 1 ∨ x.kd = 2 ∨ x.kd = 3 ∨ x.kd = 4 ∨ x.kd = 5))
    clear e1 e2 e3 e4 e5
    go_wp2
    go_ret2
    exact ⟨by rw [hi.out, hk.out]; rfl, hb⟩
  have q5 : (x.kd == 5) = false := by simp [e5]
  have hi := Lib.hid (kindR_no A m c (by omega : ¬ (x.kd = 1 ∨ x.kd = 2 ∨ x.kd = 3 ∨ x.kd = 4 ∨ x.kd = 5)))
  clear e1 e2 e3 e4 e5
  go_wp2
  go_ret2
  exact ⟨by rw [hi.out]; rfl, hb⟩

end Go.Proofs.YtnnaigoomipklaaGreatDoor
