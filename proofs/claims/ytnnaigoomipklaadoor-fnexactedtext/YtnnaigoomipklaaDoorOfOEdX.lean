/-
  EdText, the model's.
-/
import Derived.Test.YtnnaigoomipklaaDoorOfOEdT
import Derived.Test.YtnnaigoomipklaaDoorOfOTextS
set_option linter.unusedSimpArgs false
set_option linter.unusedVariables false
namespace Go.Proofs.YtnnaigoomipklaaDoor
open Go.RowKit Go.ChangeShapes Go.WideShapes M

set_option maxHeartbeats 1000000 in
theorem specEdText_any (a : Option Addr) (nl cl : Nat) (l : List ByteArray) (b0 : Option Addr) (n c : Nat) (hs : List Hk) (w : World) (hl : Strs w a nl l) (hcl : nl ≤ cl) (hh : Hks w b0 n hs) (hnew : ∀ x ∈ hs, x.new.length ≤ 1048576) (hnl : nl ≤ 1048576) :
    Calls Tryd.prog 14 #[.slice a nl cl, .slice b0 n c] w fun e w' => e = .returned (.tuple #[.string (edText l hs).1, .bool (edText l hs).2]) ∧ Below w.heap.size w w' := by
  obtain ⟨P, ok, HP⟩ : ∃ P ok, Hid (edOrders l hs = (P, ok)) := ⟨_, _, rfl⟩
  obtain ⟨q, HQ⟩ : ∃ q, Hid (P.length = q) := ⟨_, rfl⟩
  cases ok
  · have hf := Lib.hid (show edText l hs = (⟨#[]⟩, false) from if_neg (by rw [HP.out]; simp))
    go_enter Tryd.func14, Tryd.ntmps14
    go_wp2_with fail
    refine (specEdOrders_any a nl cl l b0 n c hs _ hl hcl hh hnew hnl).mono ?_
    rintro e w1 ⟨v, rows, rfl, o1, b1⟩
    rw [HP.out] at o1 ⊢
    dsimp only at o1 ⊢
    obtain ⟨A1, c1, rfl, h11, h12⟩ := o1.form HQ.out
    go_wp2
    go_ret2
    exact ⟨by rw [hf.out]; rfl, b1⟩
  · have hf := Lib.hid (show edText l hs = ordersO P by unfold edText; rw [HP.out]; exact if_pos rfl)
    go_enter Tryd.func14, Tryd.ntmps14
    go_wp2_with fail
    refine (specEdOrders_any a nl cl l b0 n c hs _ hl hcl hh hnew hnl).mono ?_
    rintro e w1 ⟨v, rows, rfl, o1, b1⟩
    rw [HP.out] at o1 ⊢
    dsimp only at o1 ⊢
    obtain ⟨A1, c1, rfl, h11, h12⟩ := o1.form HQ.out
    go_wp2_with fail
    refine (specOrdersText_any A1 q c1 P _ o1.ods).mono ?_
    rintro e w2 ⟨rfl, b2⟩
    go_wp2
    go_ret2
    exact ⟨by rw [hf.out]; rfl, b1.next b2⟩

end Go.Proofs.YtnnaigoomipklaaDoor
