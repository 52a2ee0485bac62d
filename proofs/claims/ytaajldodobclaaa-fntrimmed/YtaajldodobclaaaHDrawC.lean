/-
  Lines and hunks drawn together.
-/
import Derived.Test.YtaajldodobclaaaHDrawB
import Derived.Test.YtaajldodobclaaaHCount
set_option linter.unusedSimpArgs false
set_option linter.unusedVariables false
namespace Go.Proofs.Ytaajldodobclaaa
open Go.RowKit M

set_option maxHeartbeats 1000000 in
theorem hunked_any (g M : Nat) (w : World) (h : Curs w g M) (hM : M ≤ 700000) :
    Calls Try.prog 59 #[.pointer (some ⟨g, 0, none⟩)] w fun e w' => ∃ A n c l A2 n2 c2 out vs B, e = .returned (.tuple #[.slice A n c, .slice A2 n2 c2]) ∧ OwnV w' w.heap.size (.slice A n c) l ∧ n ≤ c ∧ n ≤ 9 ∧ (∀ s ∈ l, s.size ≤ 8) ∧ (∀ s, l.getLast? = some s → 1 ≤ s.size) ∧
      w.heap.size ≤ B ∧ (∀ b, (Value.slice A n c).ownBlock = some b → b < B) ∧ OwnH w' B (.slice A2 n2 c2) out vs ∧ n2 ≤ 6 ∧ (∀ x ∈ out, smallA x) ∧ Curs w' g (M + 800) ∧ w.grownBy w' (some g) := by
  have hlt := h.lt
  go_enter Try.func59, Try.ntmps59
  go_wp2_with fail
  refine (anyText2_any g M _ h (by omega)).mono ?_
  rintro e w1 ⟨v, l, rfl, o1, hl, hsm, hla, c1, g1⟩
  obtain ⟨n, HN⟩ : ∃ n, Hid (l.length = n) := ⟨_, rfl⟩
  obtain ⟨A, cap, rfl, hn1, hn2⟩ := o1.form HN.out
  have hn9 : n ≤ 9 := by rw [← HN.out]; exact hl
  have HSM := Lib.hid hsm
  have HLA := Lib.hid hla
  have HLT := Lib.hid (show ∀ b, (Value.slice A n cap).ownBlock = some b → b < w1.heap.size from fun b e => (o1.lt e).2)
  clear hl hsm hla
  go_wp2_with fail
  refine (anyHunks_any g _ A n cap l _ c1 (by omega) o1.strs (fun x e => by
    cases A with
    | none => cases e
    | some ad =>
      injection e with e
      subst e
      have := (o1.lt (g := ad.block) rfl).1
      omega) (by omega) HLA.out).mono ?_
  rintro e w2 ⟨v2, out, vs, rfl, o2, hlen, hsa, c2, g2⟩
  obtain ⟨n2, HN2⟩ : ∃ n2, Hid (out.length = n2) := ⟨_, rfl⟩
  obtain ⟨A2, cap2, rfl, hn21, hn22⟩ := o2.form HN2.out
  have HSA := Lib.hid hsa
  clear hsa
  go_wp2
  go_ret2
  refine ⟨A, n, cap, l, A2, n2, cap2, out, vs, w1.heap.size, rfl, ?_, hn1, hn9, HSM.out, HLA.out, g1.size, HLT.out, o2, by rw [← HN2.out]; exact hlen, HSA.out, c2.more (by omega), g1.trans g2⟩
  exact o1.kept g2 (fun b e h => by injection e with e; have := (o1.lt h).1; omega)

/-- What the draws of lines and hunks answer. -/
def DrewLH (w w' : World) (A : Option Addr) (n c : Nat) (l : List ByteArray) (A2 : Option Addr) (n2 c2 : Nat) (hs : List Hk) : Prop :=
  Strs w' A n l ∧ n ≤ c ∧ n ≤ 9 ∧ (∀ s ∈ l, s.size ≤ 8) ∧ Hks w' A2 n2 hs ∧ n2 ≤ c2 ∧ n2 ≤ 6 ∧ (∀ x ∈ hs, smallA x) ∧ Below w.heap.size w w'

set_option maxHeartbeats 1000000 in
theorem DrawPatch_any (a : Option Addr) (n c : Nat) (w : World) (h : Bytes w a n) (hn : n ≤ 1048576) :
    Calls Try.prog 39 #[.slice a n c] w fun e w' => ∃ A n1 c1 l A2 n2 c2 hs, e = .returned (.tuple #[.slice A n1 c1, .slice A2 n2 c2]) ∧ DrewLH w w' A n1 c1 l A2 n2 c2 hs := by
  have c0 := Curs.new (c := c) h hn
  go_enter Try.func39, Try.ntmps39
  go_wp2_with fail
  refine (hunked_any _ 0 _ c0 (by omega)).mono ?_
  rintro e w1 ⟨A, n1, c1, l, A2, n2, c2, out, vs, B, rfl, o1, h1, h2, h3, h4, h5, h6, o2, h7, h8, c3, g1⟩
  obtain ⟨_, _, e2, hc2, _⟩ := o2.form o2.hks.len
  injection e2 with e2 e3 e4
  have H3 := Lib.hid h3
  have H8 := Lib.hid h8
  have HD := Lib.hid (show DrewLH w w1 A n1 c1 l A2 n2 c2 out from ⟨o1.strs, h1, h2, h3, o2.hks, by omega, h7, h8, below_new g1⟩)
  clear h3 h4 h6 h8 o1 o2 e2 e3 e4
  go_wp2
  go_ret2
  exact ⟨A, n1, c1, l, A2, n2, c2, out, rfl, HD.out⟩

set_option maxHeartbeats 1000000 in
theorem DrawBackHunks_any (a : Option Addr) (n c : Nat) (w : World) (h : Bytes w a n) (hn : n ≤ 1048576) :
    Calls Try.prog 14 #[.slice a n c] w fun e w' => ∃ A n1 c1 l A2 n2 c2 hs, e = .returned (.tuple #[.slice A n1 c1, .slice A2 n2 c2]) ∧ DrewLH w w' A n1 c1 l A2 n2 c2 hs := by
  go_enter Try.func14, Try.ntmps14
  go_wp2_with fail
  refine (DrawPatch_any a n c _ h hn).mono ?_
  rintro e w1 ⟨A, n1, c1, l, A2, n2, c2, out, rfl, hd⟩
  have HD := Lib.hid hd
  clear hd
  go_wp2
  go_ret2
  exact ⟨A, n1, c1, l, A2, n2, c2, out, rfl, HD.out⟩

set_option maxHeartbeats 1000000 in
theorem DrawCountHunks_any (a : Option Addr) (n c : Nat) (w : World) (h : Bytes w a n) (hn : n ≤ 1048576) :
    Calls Try.prog 25 #[.slice a n c] w fun e w' => ∃ A2 n2 c2 hs, e = .returned (.slice A2 n2 c2) ∧ Hks w' A2 n2 hs ∧ n2 ≤ 6 ∧ (∀ x ∈ hs, smallA x) ∧ Below w.heap.size w w' := by
  go_enter Try.func25, Try.ntmps25
  go_wp2_with fail
  refine (DrawPatch_any a n c _ h hn).mono ?_
  rintro e w1 ⟨A, n1, c1, l, A2, n2, c2, out, rfl, hd⟩
  have HD := Lib.hid hd
  clear hd
  go_wp2
  go_ret
  obtain ⟨_, _, _, _, d5, _, d7, d8, d9⟩ := HD.out
  exact ⟨A2, n2, c2, out, rfl, d5, d7, d8, d9⟩

set_option maxHeartbeats 1000000 in
theorem DrawGoodHunks_any (a : Option Addr) (n c : Nat) (w : World) (h : Bytes w a n) (hn : n ≤ 1048576) :
    Calls Try.prog 24 #[.slice a n c] w fun e w' => ∃ many : Int, ∃ A2 n2 c2 hs, e = .returned (.tuple #[.int .i64 many, .slice A2 n2 c2]) ∧ 0 ≤ many ∧ many ≤ 1000 ∧ Hks w' A2 n2 hs ∧ n2 ≤ 6 ∧ (∀ x ∈ hs, smallA x) ∧ Below w.heap.size w w' := by
  have c0 := Curs.new (c := c) h hn
  go_enter Try.func24, Try.ntmps24
  go_wp2_with fail
  refine (hunked_any _ 0 _ c0 (by omega)).mono ?_
  rintro e w1 ⟨A, n1, c1, l, A2, n2, c2, out, vs, B, rfl, o1, h1, h2, h3, h4, h5, h6, o2, h7, h8, c3, g1⟩
  have H8 := Lib.hid h8
  have HO2 := Lib.hid o2
  have hzz : w.heap.size < B := by simp at h5; omega
  clear h3 h4 h6 h8 o1 o2 h5
  go_wp2_with fail
  refine (pick_any _ _ 20 _ c3 (by omega) (by omega)).mono ?_
  rintro e w2 ⟨y, rfl, hy0, hy1, c4, g2⟩
  have hy : y ≤ 19 := by omega
  clear hy1
  have o3 := HO2.out.keptg g2 hzz
  have HO3 := Lib.hid o3
  have HB2 := Lib.hid (below_new (g1.trans g2))
  clear o3
  go_wp2
  go_ret2
  refine ⟨_, A2, n2, c2, out, rfl, ?_, ?_, HO3.out.hks, h7, H8.out, HB2.out⟩
  · omega
  · omega

end Go.Proofs.Ytaajldodobclaaa
