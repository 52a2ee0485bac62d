/-
  One order done, the program's: by its kind.
-/
import Derived.Test.YtnnaigoomipklaaOcOEditI
set_option linter.unusedSimpArgs false
set_option linter.unusedVariables false
namespace Go.Proofs.Ytnnaigoomipklaa
open Go.RowKit Go.ChangeShapes Go.WideShapes M

theorem bey_add (a b c : Value) (w : World) : (method 275 105 (.agg #[a, b, c]) "loop.example/g00825/impl.isBeyond").run Try.prog w = .ok (126, .agg #[a, b, c]) w := by kernel_rfl
theorem bey_put (a b c : Value) (w : World) : (method 275 106 (.agg #[a, b, c]) "loop.example/g00825/impl.isBeyond").run Try.prog w = .ok (126, .agg #[a, b, c]) w := by kernel_rfl
theorem bey_change (a b c : Value) (w : World) : (method 275 107 (.agg #[a, b, c]) "loop.example/g00825/impl.isBeyond").run Try.prog w = .ok (126, .agg #[a, b, c]) w := by kernel_rfl
theorem bey_drop (a b c : Value) (w : World) : (method 275 108 (.agg #[a, b, c]) "loop.example/g00825/impl.isBeyond").run Try.prog w = .ok (126, .agg #[a, b, c]) w := by kernel_rfl
theorem bey_fix (a b c : Value) (w : World) : (method 275 109 (.agg #[a, b, c]) "loop.example/g00825/impl.isBeyond").run Try.prog w = .ok (126, .agg #[a, b, c]) w := by kernel_rfl

theorem nil_add (a b c : Value) (w : World) : (nilAhead 275 105 (.agg #[a, b, c]) "loop.example/g00825/impl.isBeyond").run Try.prog w = .ok (some false) w := by kernel_rfl
theorem nil_put (a b c : Value) (w : World) : (nilAhead 275 106 (.agg #[a, b, c]) "loop.example/g00825/impl.isBeyond").run Try.prog w = .ok (some false) w := by kernel_rfl
theorem nil_change (a b c : Value) (w : World) : (nilAhead 275 107 (.agg #[a, b, c]) "loop.example/g00825/impl.isBeyond").run Try.prog w = .ok (some false) w := by kernel_rfl
theorem nil_drop (a b c : Value) (w : World) : (nilAhead 275 108 (.agg #[a, b, c]) "loop.example/g00825/impl.isBeyond").run Try.prog w = .ok (some false) w := by kernel_rfl
theorem nil_fix (a b c : Value) (w : World) : (nilAhead 275 109 (.agg #[a, b, c]) "loop.example/g00825/impl.isBeyond").run Try.prog w = .ok (some false) w := by kernel_rfl

theorem ta_add (a b c : Value) (w : World) : (Instr.typeAssert (.iface 105 (.agg #[a, b, c])) 89 105 true).run Try.prog w = .ok (.tuple #[.agg #[a, b, c], .bool true]) w := by kernel_rfl
theorem ta_put_add (a b c : Value) (w : World) : (Instr.typeAssert (.iface 106 (.agg #[a, b, c])) 89 105 true).run Try.prog w = .ok (.tuple #[.agg #[.int .i64 0, .int .i64 0, .slice none 0 0], .bool false]) w := by kernel_rfl
theorem ta_put (a b c : Value) (w : World) : (Instr.typeAssert (.iface 106 (.agg #[a, b, c])) 89 106 true).run Try.prog w = .ok (.tuple #[.agg #[a, b, c], .bool true]) w := by kernel_rfl
theorem ta_change_add (a b c : Value) (w : World) : (Instr.typeAssert (.iface 107 (.agg #[a, b, c])) 89 105 true).run Try.prog w = .ok (.tuple #[.agg #[.int .i64 0, .int .i64 0, .slice none 0 0], .bool false]) w := by kernel_rfl
theorem ta_change_put (a b c : Value) (w : World) : (Instr.typeAssert (.iface 107 (.agg #[a, b, c])) 89 106 true).run Try.prog w = .ok (.tuple #[.agg #[.int .i64 0, .int .i64 0, .slice none 0 0], .bool false]) w := by kernel_rfl
theorem ta_change (a b c : Value) (w : World) : (Instr.typeAssert (.iface 107 (.agg #[a, b, c])) 89 107 true).run Try.prog w = .ok (.tuple #[.agg #[a, b, c], .bool true]) w := by kernel_rfl
theorem ta_drop_add (a b c : Value) (w : World) : (Instr.typeAssert (.iface 108 (.agg #[a, b, c])) 89 105 true).run Try.prog w = .ok (.tuple #[.agg #[.int .i64 0, .int .i64 0, .slice none 0 0], .bool false]) w := by kernel_rfl
theorem ta_drop_put (a b c : Value) (w : World) : (Instr.typeAssert (.iface 108 (.agg #[a, b, c])) 89 106 true).run Try.prog w = .ok (.tuple #[.agg #[.int .i64 0, .int .i64 0, .slice none 0 0], .bool false]) w := by kernel_rfl
theorem ta_drop_change (a b c : Value) (w : World) : (Instr.typeAssert (.iface 108 (.agg #[a, b, c])) 89 107 true).run Try.prog w = .ok (.tuple #[.agg #[.int .i64 0, .int .i64 0, .slice none 0 0], .bool false]) w := by kernel_rfl
theorem ta_drop (a b c : Value) (w : World) : (Instr.typeAssert (.iface 108 (.agg #[a, b, c])) 89 108 true).run Try.prog w = .ok (.tuple #[.agg #[a, b, c], .bool true]) w := by kernel_rfl
theorem ta_fix_add (a b c : Value) (w : World) : (Instr.typeAssert (.iface 109 (.agg #[a, b, c])) 89 105 true).run Try.prog w = .ok (.tuple #[.agg #[.int .i64 0, .int .i64 0, .slice none 0 0], .bool false]) w := by kernel_rfl
theorem ta_fix_put (a b c : Value) (w : World) : (Instr.typeAssert (.iface 109 (.agg #[a, b, c])) 89 106 true).run Try.prog w = .ok (.tuple #[.agg #[.int .i64 0, .int .i64 0, .slice none 0 0], .bool false]) w := by kernel_rfl
theorem ta_fix_change (a b c : Value) (w : World) : (Instr.typeAssert (.iface 109 (.agg #[a, b, c])) 89 107 true).run Try.prog w = .ok (.tuple #[.agg #[.int .i64 0, .int .i64 0, .slice none 0 0], .bool false]) w := by kernel_rfl
theorem ta_fix_drop (a b c : Value) (w : World) : (Instr.typeAssert (.iface 109 (.agg #[a, b, c])) 89 108 true).run Try.prog w = .ok (.tuple #[.agg #[.int .i64 0, .int .i64 0, .slice none 0 0], .bool false]) w := by kernel_rfl
theorem ta_fix (a b c : Value) (w : World) : (Instr.typeAssert (.iface 109 (.agg #[a, b, c])) 89 109 true).run Try.prog w = .ok (.tuple #[.agg #[a, b, c], .bool true]) w := by kernel_rfl

/-- The lines behind an order: as they were where it can not be done. -/
def doL (L : List ByteArray) (x : Od) : List ByteArray := if (doO L x).2 = 0 then (doO L x).1 else L
theorem doL_of {L r : List ByteArray} {x : Od} (h : doO L x = (r, 0)) : doL L x = r := by unfold doL; rw [h]; rfl
theorem doL_not {L r : List ByteArray} {x : Od} {c : Int} (h : doO L x = (r, c)) (hc : c ≠ 0) : doL L x = L := by unfold doL; rw [h]; exact if_neg hc
theorem do_far {L : List ByteArray} {x : Od} (h : (L.length : Int) < x.to_) : doO L x = ([], 3) := if_pos h
theorem do_rep {L : List ByteArray} {x : Od} (h : ¬ (L.length : Int) < x.to_) (hk : x.kd ≠ 5) : doO L x = (L.take (fromO x) ++ (x.new ++ L.drop (behindO x)), 0) := by
  unfold doO
  rw [if_neg h, if_neg hk]
theorem do_fix {L : List ByteArray} {x : Od} {s : ByteArray} (h : ¬ (L.length : Int) < x.to_) (hk : x.kd = 5) (hs : L[(x.fr - 1).toNat]? = some s) : doO L x = match fixS s with
    | some t => (L.take (x.fr - 1).toNat ++ t :: L.drop x.to_.toNat, 0)
    | none => ([], 2) := by
  unfold doO
  rw [if_neg h, if_pos hk, hs]
  rfl

set_option maxHeartbeats 2000000 in
set_option maxRecDepth 100000 in
theorem doFix_any (base eb : Nat) (u : Value) (L : List ByteArray) (a : Nat) (new : List ByteArray) (A : Option Addr) (m c : Nat) (w : World) (ha : 1 ≤ a) (hb : a ≤ 1000) (h : Ed w base eb u L) (hn : L.length ≤ 100000) (hsz : ∀ s ∈ L, 1 ≤ s.size ∧ s.size ≤ 100) :
    Calls Try.prog 68 #[.pointer (some ⟨eb, 0, none⟩), .iface 109 (.agg #[.int .i64 (a : Int), .int .i64 (a : Int), .slice A m c])] w fun e w' =>
      e = .returned (.int .i64 (doO L ⟨5, a, a, new⟩).2) ∧ ∃ u', Moved w w' base eb u u' (doL L ⟨5, a, a, new⟩) := by
  have H := Lib.hid h
  have hc := h.cell
  obtain ⟨n, HN⟩ : ∃ n, Hid (L.length = n) := ⟨_, rfl⟩
  have ho := h.own
  obtain ⟨B, cap, rfl, hnc, hcm⟩ := ho.form HN.out
  have hmf : ∀ (fn : Fn) (first cp : Array Value) (w : World), (Instr.makeFunc fn first cp).run Try.prog w = .ok (.func fn first cp) w := fun _ _ _ _ => rfl
  have hm := bey_fix (.int .i64 (a : Int)) (.int .i64 (a : Int)) (.slice A m c)
  have hna := nil_fix (.int .i64 (a : Int)) (.int .i64 (a : Int)) (.slice A m c)
  have t0 := ta_fix_add (.int .i64 (a : Int)) (.int .i64 (a : Int)) (.slice A m c)
  have t1 := ta_fix_put (.int .i64 (a : Int)) (.int .i64 (a : Int)) (.slice A m c)
  have t2 := ta_fix_change (.int .i64 (a : Int)) (.int .i64 (a : Int)) (.slice A m c)
  have t3 := ta_fix_drop (.int .i64 (a : Int)) (.int .i64 (a : Int)) (.slice A m c)
  have t4 := ta_fix (.int .i64 (a : Int)) (.int .i64 (a : Int)) (.slice A m c)
  have hHB := fun (w1 : World) (b1 : Below w.drew.heap.size w.drew w1) => (show Below w.heap.size w w1 from (Below.refl _ w).drew.next b1)
  have HHB := Lib.hid hHB
  clear h ho hHB
  by_cases hfar : (n : Int) < (a : Int)
  · have hd : decide ((n : Int) < (a : Int)) = true := by simpa using hfar
    have HF := Lib.hid (show doO L ⟨5, a, a, new⟩ = ([], 3) from do_far (by rw [HN.out]; exact hfar))
    have HD := Lib.hid hd
    clear hfar hd
    go_enter Try.func68, Try.ntmps68
    go_wp2
    go_region_held3 (fun w' => w'.cell? ⟨eb, 0, none⟩ = some (.slice B n cap)) (first | exact hc | exact cell_keep b1 hc)
      (first | (go_at_call 126; refine (isBeyond_any ⟨5, a, a, new⟩ n A m c _).mono ?_; rintro e w1 ⟨rfl, b1⟩; dsimp only; rw [HD.out]) | fail)
    go_wp2
    go_ret
    exact ⟨by rw [HF.out]; rfl, _, by rw [doL_not HF.out (by decide)]; exact Moved.same H.out (HHB.out _ b1)⟩
  · have hd : decide ((n : Int) < (a : Int)) = false := by simpa using hfar
    have HD := Lib.hid hd
    obtain ⟨k, HK⟩ : ∃ k : Nat, Hid (k + 1 = a) := ⟨a - 1, show a - 1 + 1 = a by omega⟩
    have hk1 : IntKind.i64.wrap ((a : Int) - 1) = (k : Int) := by have := HK.out; rw [IntKind.wrap_i64]; omega
    have hkn : k < L.length := by have := HK.out; have := HN.out; omega
    have hs : L[k]? = some L[k] := List.getElem?_eq_getElem hkn
    obtain ⟨s, HS⟩ : ∃ s, Hid (L[k]? = some s) := ⟨_, hs⟩
    have HZ := Lib.hid (hsz s (List.mem_of_getElem? HS.out))
    have HF := Lib.hid (do_fix (L := L) (x := ⟨5, a, a, new⟩) (s := s) (by show ¬ (L.length : Int) < (a : Int); rw [HN.out]; exact hfar) rfl (by show L[((a : Int) - 1).toNat]? = some s; rw [show ((a : Int) - 1).toNat = k by have := HK.out; omega]; exact HS.out))
    have HE := Lib.hid (show (((a : Int) - 1).toNat = k ∧ ((a : Int)).toNat = k + 1) by have := HK.out; omega)
    clear hfar hd hs hkn hsz
    go_enter Try.func68, Try.ntmps68
    go_wp2
    go_region_held3 (fun w' => w'.cell? ⟨eb, 0, none⟩ = some (.slice B n cap)) (first | exact hc | exact cell_keep b1 hc)
      (first | (go_at_call 126; refine (isBeyond_any ⟨5, a, a, new⟩ n A m c _).mono ?_; rintro e w1 ⟨rfl, b1⟩; dsimp only; rw [HD.out]) | fail)
    have HE1 := Lib.hid ((H.out.below (Below.refl _ w).drew).below b1)
    have HB1 := Lib.hid (HHB.out _ b1)
    clear b1
    have hcc := HE1.out.cell
    obtain ⟨W2, HW2⟩ : ∃ W2, Hid (W2 = w1.alloc (.cells #[.int .i64 (a : Int), .int .i64 (a : Int), .slice A m c] 109)) := ⟨_, rfl⟩
    have HB2 := Lib.hid (show Below w1.heap.size w1 W2 by rw [HW2.out]; exact below_alloc _ _)
    have HBB := Lib.hid (show Below w.heap.size w W2 from HB1.out.next HB2.out)
    go_wp2_with fail
    rw [← HW2.out]
    refine (efix_any base eb _ L k s _ (HE1.out.below HB2.out) HS.out HZ.out.1 (by have := HZ.out; omega) (by omega)).mono ?_
    rintro e w3 (⟨hf, rfl, rfl⟩ | ⟨t, hf, rfl, e3⟩)
    · have HDO := Lib.hid (show doO L ⟨5, a, a, new⟩ = ([], 2) by rw [HF.out, hf])
      go_wp2
      go_ret
      exact ⟨by rw [HDO.out]; rfl, _, by rw [doL_not HDO.out (by decide)]; exact Moved.same H.out HBB.out⟩
    · have HDO := Lib.hid (show doO L ⟨5, a, a, new⟩ = (L.set k t, 0) by
        rw [HF.out, hf]
        dsimp only
        rw [HE.out.1, HE.out.2]
        rw [List.set_eq_take_append_cons_drop, if_pos (by have := (List.getElem?_eq_some_iff.1 HS.out).1; omega)])
      go_wp2
      go_ret
      exact ⟨by rw [HDO.out]; rfl, _, by rw [doL_of HDO.out]; exact Moved.after HBB.out e3⟩

set_option maxHeartbeats 2000000 in
set_option maxRecDepth 100000 in
theorem doAdd_any (base eb : Nat) (u : Value) (L : List ByteArray) (a : Nat) (new : List ByteArray) (A : Option Addr) (m c : Nat) (w : World) (ha : 0 ≤ a) (hb : a ≤ 1000) (h : Ed w base eb u L) (hn : L.length ≤ 100000) (hs : Strs w A m new) (hmc : m ≤ c) (hm : m ≤ 1048576) (hpl : PlainAt w A) (hlow : ∀ b, A = some b → b.block < base) :
    Calls Try.prog 68 #[.pointer (some ⟨eb, 0, none⟩), .iface 105 (.agg #[.int .i64 (a : Int), .int .i64 (a : Int), .slice A m c])] w fun e w' =>
      e = .returned (.int .i64 (doO L ⟨1, a, a, new⟩).2) ∧ ∃ u', Moved w w' base eb u u' (doL L ⟨1, a, a, new⟩) := by
  have SX := Lib.hid hs
  have PX := Lib.hid hpl
  have LX := Lib.hid hlow
  clear hs hpl hlow
  have H := Lib.hid h
  have hc := h.cell
  obtain ⟨n, HN⟩ : ∃ n, Hid (L.length = n) := ⟨_, rfl⟩
  have ho := h.own
  obtain ⟨B, cap, rfl, hnc, hcm⟩ := ho.form HN.out
  have hmf : ∀ (fn : Fn) (first cp : Array Value) (w : World), (Instr.makeFunc fn first cp).run Try.prog w = .ok (.func fn first cp) w := fun _ _ _ _ => rfl
  have hm0 := bey_add (.int .i64 (a : Int)) (.int .i64 (a : Int)) (.slice A m c)
  have hna := nil_add (.int .i64 (a : Int)) (.int .i64 (a : Int)) (.slice A m c)
  have t0 := ta_add (.int .i64 (a : Int)) (.int .i64 (a : Int)) (.slice A m c)
  have hHB := fun (w1 : World) (b1 : Below w.drew.heap.size w.drew w1) => (show Below w.heap.size w w1 from (Below.refl _ w).drew.next b1)
  have HHB := Lib.hid hHB
  clear h ho hHB
  by_cases hfar : (n : Int) < (a : Int)
  · have hd : decide ((n : Int) < (a : Int)) = true := by simpa using hfar
    have HF := Lib.hid (show doO L ⟨1, a, a, new⟩ = ([], 3) from do_far (by rw [HN.out]; exact hfar))
    have HD := Lib.hid hd
    clear hfar hd
    go_enter Try.func68, Try.ntmps68
    go_wp2
    go_region_held3 (fun w' => w'.cell? ⟨eb, 0, none⟩ = some (.slice B n cap)) (first | exact hc | exact cell_keep b1 hc)
      (first | (go_at_call 126; refine (isBeyond_any ⟨1, a, a, new⟩ n A m c _).mono ?_; rintro e w1 ⟨rfl, b1⟩; dsimp only; rw [HD.out]) | fail)
    go_wp2
    go_ret
    exact ⟨by rw [HF.out]; rfl, _, by rw [doL_not HF.out (by decide)]; exact Moved.same H.out (HHB.out _ b1)⟩
  · have hd : decide ((n : Int) < (a : Int)) = false := by simpa using hfar
    have HD := Lib.hid hd
    have hjn : a ≤ L.length := by have := HN.out; omega
    have HJ := Lib.hid hjn
    have HF := Lib.hid (show doO L ⟨1, a, a, new⟩ = (L.take a ++ (new ++ L.drop a), 0) by
      rw [do_rep (by rw [HN.out]; exact hfar) (by show (1 : Int) ≠ 5; decide)]
      have e1 : fromO ⟨1, a, a, new⟩ = a := by unfold fromO; dsimp only; split <;> omega
      have e2 : behindO ⟨1, a, a, new⟩ = a := by unfold behindO; dsimp only; split <;> omega
      rw [e1, e2])
    clear hfar hd hjn
    go_enter Try.func68, Try.ntmps68
    go_wp2
    go_region_held3 (fun w' => w'.cell? ⟨eb, 0, none⟩ = some (.slice B n cap)) (first | exact hc | exact cell_keep b1 hc)
      (first | (go_at_call 126; refine (isBeyond_any ⟨1, a, a, new⟩ n A m c _).mono ?_; rintro e w1 ⟨rfl, b1⟩; dsimp only; rw [HD.out]) | fail)
    have HE1 := Lib.hid ((H.out.below (Below.refl _ w).drew).below b1)
    have HB1w := Lib.hid (HHB.out _ b1)
    clear b1
    have hcc := HE1.out.cell
    obtain ⟨W2, HW2⟩ : ∃ W2, Hid (W2 = w1.alloc (.cells #[.int .i64 (a : Int), .int .i64 (a : Int), .slice A m c] 105)) := ⟨_, rfl⟩
    have HB2 := Lib.hid (show Below w1.heap.size w1 W2 by rw [HW2.out]; exact below_alloc _ _)
    have HBB := Lib.hid (show Below w.heap.size w W2 from HB1w.out.next HB2.out)
    go_wp2_with fail
    rw [← HW2.out]
    refine (ereplace_any base eb _ L a a A m c new _ (HE1.out.below HB2.out) ((SX.out.below HB1w.out).below HB2.out) hmc ((PX.out.below HB1w.out).below HB2.out) LX.out (by omega) HJ.out (by omega) hm).mono ?_
    rintro e w3 ⟨rfl, u3, e3⟩
    go_wp2
    go_ret
    exact ⟨by rw [HF.out]; rfl, _, by rw [doL_of HF.out]; exact Moved.after HBB.out e3⟩

set_option maxHeartbeats 2000000 in
set_option maxRecDepth 100000 in
theorem doPut_any (base eb : Nat) (u : Value) (L : List ByteArray) (a : Nat) (new : List ByteArray) (A : Option Addr) (m c : Nat) (w : World) (ha : 1 ≤ a) (hb : a ≤ 1000) (h : Ed w base eb u L) (hn : L.length ≤ 100000) (hs : Strs w A m new) (hmc : m ≤ c) (hm : m ≤ 1048576) (hpl : PlainAt w A) (hlow : ∀ b, A = some b → b.block < base) :
    Calls Try.prog 68 #[.pointer (some ⟨eb, 0, none⟩), .iface 106 (.agg #[.int .i64 (a : Int), .int .i64 (a : Int), .slice A m c])] w fun e w' =>
      e = .returned (.int .i64 (doO L ⟨2, a, a, new⟩).2) ∧ ∃ u', Moved w w' base eb u u' (doL L ⟨2, a, a, new⟩) := by
  have SX := Lib.hid hs
  have PX := Lib.hid hpl
  have LX := Lib.hid hlow
  clear hs hpl hlow
  have H := Lib.hid h
  have hc := h.cell
  obtain ⟨n, HN⟩ : ∃ n, Hid (L.length = n) := ⟨_, rfl⟩
  have ho := h.own
  obtain ⟨B, cap, rfl, hnc, hcm⟩ := ho.form HN.out
  have hmf : ∀ (fn : Fn) (first cp : Array Value) (w : World), (Instr.makeFunc fn first cp).run Try.prog w = .ok (.func fn first cp) w := fun _ _ _ _ => rfl
  have hm0 := bey_put (.int .i64 (a : Int)) (.int .i64 (a : Int)) (.slice A m c)
  have hna := nil_put (.int .i64 (a : Int)) (.int .i64 (a : Int)) (.slice A m c)
  have t0 := ta_put_add (.int .i64 (a : Int)) (.int .i64 (a : Int)) (.slice A m c)
  have t1 := ta_put (.int .i64 (a : Int)) (.int .i64 (a : Int)) (.slice A m c)
  have hHB := fun (w1 : World) (b1 : Below w.drew.heap.size w.drew w1) => (show Below w.heap.size w w1 from (Below.refl _ w).drew.next b1)
  have HHB := Lib.hid hHB
  clear h ho hHB
  by_cases hfar : (n : Int) < (a : Int)
  · have hd : decide ((n : Int) < (a : Int)) = true := by simpa using hfar
    have HF := Lib.hid (show doO L ⟨2, a, a, new⟩ = ([], 3) from do_far (by rw [HN.out]; exact hfar))
    have HD := Lib.hid hd
    clear hfar hd
    go_enter Try.func68, Try.ntmps68
    go_wp2
    go_region_held3 (fun w' => w'.cell? ⟨eb, 0, none⟩ = some (.slice B n cap)) (first | exact hc | exact cell_keep b1 hc)
      (first | (go_at_call 126; refine (isBeyond_any ⟨2, a, a, new⟩ n A m c _).mono ?_; rintro e w1 ⟨rfl, b1⟩; dsimp only; rw [HD.out]) | fail)
    go_wp2
    go_ret
    exact ⟨by rw [HF.out]; rfl, _, by rw [doL_not HF.out (by decide)]; exact Moved.same H.out (HHB.out _ b1)⟩
  · have hd : decide ((n : Int) < (a : Int)) = false := by simpa using hfar
    have HD := Lib.hid hd
    obtain ⟨k, HK⟩ : ∃ k : Nat, Hid (k + 1 = a) := ⟨a - 1, show a - 1 + 1 = a by omega⟩
    have hk1 : IntKind.i64.wrap ((a : Int) - 1) = (k : Int) := by have := HK.out; rw [IntKind.wrap_i64]; omega
    have hjn : k ≤ L.length := by have := HK.out; have := HN.out; omega
    have HJ := Lib.hid hjn
    have HF := Lib.hid (show doO L ⟨2, a, a, new⟩ = (L.take k ++ (new ++ L.drop k), 0) by
      rw [do_rep (by rw [HN.out]; exact hfar) (by show (2 : Int) ≠ 5; decide)]
      have e1 : fromO ⟨2, a, a, new⟩ = k := by unfold fromO; dsimp only; have := HK.out; split <;> omega
      have e2 : behindO ⟨2, a, a, new⟩ = k := by unfold behindO; dsimp only; have := HK.out; split <;> omega
      rw [e1, e2])
    clear hfar hd hjn
    go_enter Try.func68, Try.ntmps68
    go_wp2
    go_region_held3 (fun w' => w'.cell? ⟨eb, 0, none⟩ = some (.slice B n cap)) (first | exact hc | exact cell_keep b1 hc)
      (first | (go_at_call 126; refine (isBeyond_any ⟨2, a, a, new⟩ n A m c _).mono ?_; rintro e w1 ⟨rfl, b1⟩; dsimp only; rw [HD.out]) | fail)
    have HE1 := Lib.hid ((H.out.below (Below.refl _ w).drew).below b1)
    have HB1w := Lib.hid (HHB.out _ b1)
    clear b1
    have hcc := HE1.out.cell
    obtain ⟨W2, HW2⟩ : ∃ W2, Hid (W2 = w1.alloc (.cells #[.int .i64 (a : Int), .int .i64 (a : Int), .slice A m c] 106)) := ⟨_, rfl⟩
    have HB2 := Lib.hid (show Below w1.heap.size w1 W2 by rw [HW2.out]; exact below_alloc _ _)
    have HBB := Lib.hid (show Below w.heap.size w W2 from HB1w.out.next HB2.out)
    go_wp2_with fail
    rw [← HW2.out]
    refine (ereplace_any base eb _ L k k A m c new _ (HE1.out.below HB2.out) ((SX.out.below HB1w.out).below HB2.out) hmc ((PX.out.below HB1w.out).below HB2.out) LX.out (by have := HK.out; omega) HJ.out (by omega) hm).mono ?_
    rintro e w3 ⟨rfl, u3, e3⟩
    go_wp2
    go_ret
    exact ⟨by rw [HF.out]; rfl, _, by rw [doL_of HF.out]; exact Moved.after HBB.out e3⟩

set_option maxHeartbeats 2000000 in
set_option maxRecDepth 100000 in
theorem doChange_any (base eb : Nat) (u : Value) (L : List ByteArray) (a b : Nat) (new : List ByteArray) (A : Option Addr) (m c : Nat) (w : World) (hab : a ≤ b) (ha : 1 ≤ a) (hb : b ≤ 1000) (h : Ed w base eb u L) (hn : L.length ≤ 100000) (hs : Strs w A m new) (hmc : m ≤ c) (hm : m ≤ 1048576) (hpl : PlainAt w A) (hlow : ∀ b, A = some b → b.block < base) :
    Calls Try.prog 68 #[.pointer (some ⟨eb, 0, none⟩), .iface 107 (.agg #[.int .i64 (a : Int), .int .i64 (b : Int), .slice A m c])] w fun e w' =>
      e = .returned (.int .i64 (doO L ⟨3, a, b, new⟩).2) ∧ ∃ u', Moved w w' base eb u u' (doL L ⟨3, a, b, new⟩) := by
  have SX := Lib.hid hs
  have PX := Lib.hid hpl
  have LX := Lib.hid hlow
  clear hs hpl hlow
  have H := Lib.hid h
  have hc := h.cell
  obtain ⟨n, HN⟩ : ∃ n, Hid (L.length = n) := ⟨_, rfl⟩
  have ho := h.own
  obtain ⟨B, cap, rfl, hnc, hcm⟩ := ho.form HN.out
  have hmf : ∀ (fn : Fn) (first cp : Array Value) (w : World), (Instr.makeFunc fn first cp).run Try.prog w = .ok (.func fn first cp) w := fun _ _ _ _ => rfl
  have hm0 := bey_change (.int .i64 (a : Int)) (.int .i64 (b : Int)) (.slice A m c)
  have hna := nil_change (.int .i64 (a : Int)) (.int .i64 (b : Int)) (.slice A m c)
  have t0 := ta_change_add (.int .i64 (a : Int)) (.int .i64 (b : Int)) (.slice A m c)
  have t1 := ta_change_put (.int .i64 (a : Int)) (.int .i64 (b : Int)) (.slice A m c)
  have t2 := ta_change (.int .i64 (a : Int)) (.int .i64 (b : Int)) (.slice A m c)
  have hHB := fun (w1 : World) (b1 : Below w.drew.heap.size w.drew w1) => (show Below w.heap.size w w1 from (Below.refl _ w).drew.next b1)
  have HHB := Lib.hid hHB
  clear h ho hHB
  by_cases hfar : (n : Int) < (b : Int)
  · have hd : decide ((n : Int) < (b : Int)) = true := by simpa using hfar
    have HF := Lib.hid (show doO L ⟨3, a, b, new⟩ = ([], 3) from do_far (by rw [HN.out]; exact hfar))
    have HD := Lib.hid hd
    clear hfar hd
    go_enter Try.func68, Try.ntmps68
    go_wp2
    go_region_held3 (fun w' => w'.cell? ⟨eb, 0, none⟩ = some (.slice B n cap)) (first | exact hc | exact cell_keep b1 hc)
      (first | (go_at_call 126; refine (isBeyond_any ⟨3, a, b, new⟩ n A m c _).mono ?_; rintro e w1 ⟨rfl, b1⟩; dsimp only; rw [HD.out]) | fail)
    go_wp2
    go_ret
    exact ⟨by rw [HF.out]; rfl, _, by rw [doL_not HF.out (by decide)]; exact Moved.same H.out (HHB.out _ b1)⟩
  · have hd : decide ((n : Int) < (b : Int)) = false := by simpa using hfar
    have HD := Lib.hid hd
    obtain ⟨k, HK⟩ : ∃ k : Nat, Hid (k + 1 = a) := ⟨a - 1, show a - 1 + 1 = a by omega⟩
    have hk1 : IntKind.i64.wrap ((a : Int) - 1) = (k : Int) := by have := HK.out; rw [IntKind.wrap_i64]; omega
    have hjn : b ≤ L.length := by have := HK.out; have := HN.out; omega
    have HJ := Lib.hid hjn
    have HF := Lib.hid (show doO L ⟨3, a, b, new⟩ = (L.take k ++ (new ++ L.drop b), 0) by
      rw [do_rep (by rw [HN.out]; exact hfar) (by show (3 : Int) ≠ 5; decide)]
      have e1 : fromO ⟨3, a, b, new⟩ = k := by unfold fromO; dsimp only; have := HK.out; split <;> omega
      have e2 : behindO ⟨3, a, b, new⟩ = b := by unfold behindO; dsimp only; have := HK.out; split <;> omega
      rw [e1, e2])
    clear hfar hd hjn
    go_enter Try.func68, Try.ntmps68
    go_wp2
    go_region_held3 (fun w' => w'.cell? ⟨eb, 0, none⟩ = some (.slice B n cap)) (first | exact hc | exact cell_keep b1 hc)
      (first | (go_at_call 126; refine (isBeyond_any ⟨3, a, b, new⟩ n A m c _).mono ?_; rintro e w1 ⟨rfl, b1⟩; dsimp only; rw [HD.out]) | fail)
    have HE1 := Lib.hid ((H.out.below (Below.refl _ w).drew).below b1)
    have HB1w := Lib.hid (HHB.out _ b1)
    clear b1
    have hcc := HE1.out.cell
    obtain ⟨W2, HW2⟩ : ∃ W2, Hid (W2 = w1.alloc (.cells #[.int .i64 (a : Int), .int .i64 (b : Int), .slice A m c] 107)) := ⟨_, rfl⟩
    have HB2 := Lib.hid (show Below w1.heap.size w1 W2 by rw [HW2.out]; exact below_alloc _ _)
    have HBB := Lib.hid (show Below w.heap.size w W2 from HB1w.out.next HB2.out)
    go_wp2_with fail
    rw [← HW2.out]
    refine (ereplace_any base eb _ L k b A m c new _ (HE1.out.below HB2.out) ((SX.out.below HB1w.out).below HB2.out) hmc ((PX.out.below HB1w.out).below HB2.out) LX.out (by have := HK.out; omega) HJ.out (by omega) hm).mono ?_
    rintro e w3 ⟨rfl, u3, e3⟩
    go_wp2
    go_ret
    exact ⟨by rw [HF.out]; rfl, _, by rw [doL_of HF.out]; exact Moved.after HBB.out e3⟩

set_option maxHeartbeats 2000000 in
set_option maxRecDepth 100000 in
theorem doDrop_any (base eb : Nat) (u : Value) (L : List ByteArray) (a b : Nat) (new : List ByteArray) (A : Option Addr) (m c : Nat) (w : World) (hab : a ≤ b) (ha : 1 ≤ a) (hb : b ≤ 1000) (h : Ed w base eb u L) (hn : L.length ≤ 100000) (hnew : new = []) :
    Calls Try.prog 68 #[.pointer (some ⟨eb, 0, none⟩), .iface 108 (.agg #[.int .i64 (a : Int), .int .i64 (b : Int), .slice A m c])] w fun e w' =>
      e = .returned (.int .i64 (doO L ⟨4, a, b, new⟩).2) ∧ ∃ u', Moved w w' base eb u u' (doL L ⟨4, a, b, new⟩) := by
  subst hnew
  have H := Lib.hid h
  have hc := h.cell
  obtain ⟨n, HN⟩ : ∃ n, Hid (L.length = n) := ⟨_, rfl⟩
  have ho := h.own
  obtain ⟨B, cap, rfl, hnc, hcm⟩ := ho.form HN.out
  have hmf : ∀ (fn : Fn) (first cp : Array Value) (w : World), (Instr.makeFunc fn first cp).run Try.prog w = .ok (.func fn first cp) w := fun _ _ _ _ => rfl
  have hm0 := bey_drop (.int .i64 (a : Int)) (.int .i64 (b : Int)) (.slice A m c)
  have hna := nil_drop (.int .i64 (a : Int)) (.int .i64 (b : Int)) (.slice A m c)
  have t0 := ta_drop_add (.int .i64 (a : Int)) (.int .i64 (b : Int)) (.slice A m c)
  have t1 := ta_drop_put (.int .i64 (a : Int)) (.int .i64 (b : Int)) (.slice A m c)
  have t2 := ta_drop_change (.int .i64 (a : Int)) (.int .i64 (b : Int)) (.slice A m c)
  have t3 := ta_drop (.int .i64 (a : Int)) (.int .i64 (b : Int)) (.slice A m c)
  have hHB := fun (w1 : World) (b1 : Below w.drew.heap.size w.drew w1) => (show Below w.heap.size w w1 from (Below.refl _ w).drew.next b1)
  have HHB := Lib.hid hHB
  clear h ho hHB
  by_cases hfar : (n : Int) < (b : Int)
  · have hd : decide ((n : Int) < (b : Int)) = true := by simpa using hfar
    have HF := Lib.hid (show doO L ⟨4, a, b, []⟩ = ([], 3) from do_far (by rw [HN.out]; exact hfar))
    have HD := Lib.hid hd
    clear hfar hd
    go_enter Try.func68, Try.ntmps68
    go_wp2
    go_region_held3 (fun w' => w'.cell? ⟨eb, 0, none⟩ = some (.slice B n cap)) (first | exact hc | exact cell_keep b1 hc)
      (first | (go_at_call 126; refine (isBeyond_any ⟨4, a, b, []⟩ n A m c _).mono ?_; rintro e w1 ⟨rfl, b1⟩; dsimp only; rw [HD.out]) | fail)
    go_wp2
    go_ret
    exact ⟨by rw [HF.out]; rfl, _, by rw [doL_not HF.out (by decide)]; exact Moved.same H.out (HHB.out _ b1)⟩
  · have hd : decide ((n : Int) < (b : Int)) = false := by simpa using hfar
    have HD := Lib.hid hd
    obtain ⟨k, HK⟩ : ∃ k : Nat, Hid (k + 1 = a) := ⟨a - 1, show a - 1 + 1 = a by omega⟩
    have hk1 : IntKind.i64.wrap ((a : Int) - 1) = (k : Int) := by have := HK.out; rw [IntKind.wrap_i64]; omega
    have hjn : b ≤ L.length := by have := HK.out; have := HN.out; omega
    have HJ := Lib.hid hjn
    have HF := Lib.hid (show doO L ⟨4, a, b, []⟩ = (L.take k ++ ([] ++ L.drop b), 0) by
      rw [do_rep (by rw [HN.out]; exact hfar) (by show (4 : Int) ≠ 5; decide)]
      have e1 : fromO ⟨4, a, b, []⟩ = k := by unfold fromO; dsimp only; have := HK.out; split <;> omega
      have e2 : behindO ⟨4, a, b, []⟩ = b := by unfold behindO; dsimp only; have := HK.out; split <;> omega
      rw [e1, e2])
    clear hfar hd hjn
    go_enter Try.func68, Try.ntmps68
    go_wp2
    go_region_held3 (fun w' => w'.cell? ⟨eb, 0, none⟩ = some (.slice B n cap)) (first | exact hc | exact cell_keep b1 hc)
      (first | (go_at_call 126; refine (isBeyond_any ⟨4, a, b, []⟩ n A m c _).mono ?_; rintro e w1 ⟨rfl, b1⟩; dsimp only; rw [HD.out]) | fail)
    have HE1 := Lib.hid ((H.out.below (Below.refl _ w).drew).below b1)
    have HB1w := Lib.hid (HHB.out _ b1)
    clear b1
    have hcc := HE1.out.cell
    obtain ⟨W2, HW2⟩ : ∃ W2, Hid (W2 = w1.alloc (.cells #[.int .i64 (a : Int), .int .i64 (b : Int), .slice A m c] 108)) := ⟨_, rfl⟩
    have HB2 := Lib.hid (show Below w1.heap.size w1 W2 by rw [HW2.out]; exact below_alloc _ _)
    have HBB := Lib.hid (show Below w.heap.size w W2 from HB1w.out.next HB2.out)
    go_wp2_with fail
    rw [← HW2.out]
    refine (ereplace_any base eb _ L k b none 0 0 [] _ (HE1.out.below HB2.out) Strs.nil_ (Nat.le_refl _) (fun ad e => by cases e) (fun ad e => by cases e) (by have := HK.out; omega) HJ.out (by omega) (by omega)).mono ?_
    rintro e w3 ⟨rfl, u3, e3⟩
    go_wp2
    go_ret
    exact ⟨by rw [HF.out]; rfl, _, by rw [doL_of HF.out]; exact Moved.after HBB.out e3⟩

theorem doO_any (base eb : Nat) (u : Value) (L : List ByteArray) (x : Od) (A : Option Addr) (m c : Nat) (w : World) (hx : orderB x = true) (h : Ed w base eb u L) (hn : L.length ≤ 100000) (hsz : ∀ s ∈ L, 1 ≤ s.size ∧ s.size ≤ 100)
    (hs : Strs w A m x.new) (hmc : m ≤ c) (hpl : PlainAt w A) (hlow : ∀ b, A = some b → b.block < base) :
    Calls Try.prog 68 #[.pointer (some ⟨eb, 0, none⟩), kindV x A m c] w fun e w' => e = .returned (.int .i64 (doO L x).2) ∧ ∃ u', Moved w w' base eb u u' (doL L x) := by
  have hm : m ≤ 1048576 := by have := (order_lines hx).2; have := hs.len; omega
  obtain ⟨a, b, e1, e2, hab, hb, h5⟩ := order_cases hx
  obtain ⟨kd, fr, to_, new⟩ := x
  dsimp only at e1 e2 h5 hs ⊢
  subst e1 e2
  unfold kindV kindT
  dsimp only
  rcases h5 with ⟨rfl, rfl, _⟩ | ⟨rfl, rfl, h1, _⟩ | ⟨rfl, h1, _⟩ | ⟨rfl, h1, rfl⟩ | ⟨rfl, h1, rfl, rfl⟩
  · exact doAdd_any base eb u L a new A m c w (Nat.zero_le _) hb h hn hs hmc hm hpl hlow
  · exact doPut_any base eb u L a new A m c w h1 hb h hn hs hmc hm hpl hlow
  · exact doChange_any base eb u L a b new A m c w hab h1 hb h hn hs hmc hm hpl hlow
  · exact doDrop_any base eb u L a b [] A m c w hab h1 hb h hn rfl
  · exact doFix_any base eb u L a [] A m c w h1 hb h hn hsz

end Go.Proofs.Ytnnaigoomipklaa
