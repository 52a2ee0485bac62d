/-
  LinesOf, the model's.
-/
import Derived.Test.YtnnaigoomipklaaGreatDoorOgCutM
import Derived.Test.YtnnaigoomipklaaGreatDoorOgGood
import Derived.Test.YtnnaigoomipklaaGreatDoorOgMemT
set_option linter.unusedSimpArgs false
set_option linter.unusedVariables false
namespace Go.Proofs.YtnnaigoomipklaaGreatDoor
open Go.RowKit M

theorem extract_size (s : ByteArray) (i j : Nat) (h : j ≤ s.size) : (s.extract i j).size = j - i := by simp; omega

set_option maxHeartbeats 1000000 in
theorem l1Cut_any (s : ByteArray) (w : World) (hs : s.size ≤ 1048576) :
    Calls Tryz.prog 71 #[.string s] w fun e w' => ∃ v, e = .returned v ∧ OwnV w' w.heap.size v (cutOf s) ∧ Below w.heap.size w w' := by
  go_enter Tryz.func71, Tryz.ntmps71
  go_wp2
  go_loopw [3, 4, 5] (fun ov fv iv w' => ∃ (v : Value) (out : List ByteArray) (f i : Nat), v = ov ∧ fv = .int .i64 f ∧ iv = .int .i64 i ∧ f ≤ i ∧ i ≤ s.size ∧ out.length ≤ i ∧ OwnV w' w.heap.size v out ∧ Hid (cutOf s = out ++ restAt s f i) ∧ Below w.heap.size w w') (fun _ _ iv _ => s.size - (intOf iv).toNat)
  case atStart => exact ⟨_, [], 0, 0, rfl, rfl, rfl, by omega, by omega, by simp, OwnV.nil_, show _ = _ by rw [rest_zero]; rfl, Below.refl _ _⟩
  case round =>
    obtain ⟨v, out, f, i, rfl, rfl, rfl, hfi, his, hlen, ho, H, hb⟩ := hrel
    by_cases hlt : i < s.size
    · by_cases he : (s[i]'hlt).toNat = 10
      · have hn := Lib.hid (rest_nl s hfi hlt he)
        have hz := extract_size s f (i + 1) (by omega)
        have HZ := Lib.hid hz
        have hst := strs_one wr (s.extract f (i + 1)) (by rw [hz]; unfold maxLen; omega)
        clear hz
        have hz1 := hb.size
        go_wp2_with (at_builtin; refine app_strs (.tmp 16) (.tmp 22) w.heap.size v out (ho.below (below_alloc _ _)) _ 1 1 [s.extract f (i + 1)] hst (by omega) (by simp; omega) rfl rfl rfl rfl ?_; intro v1 w1 o1 g1 p1)
        go_roundw
        case rel => exact ⟨v1, _, i + 1, i + 1, rfl, by go_num, by go_num, by omega, by omega, by simp; omega, o1, show _ = _ by rw [H.out, hn.out]; simp, (Below.alloc hb hz1 _).grown g1 (by simp; omega) (fun b e => (ho.lt e).1)⟩
        case measure => simp [intOf]; omega
      · have hn := Lib.hid (rest_other s hfi hlt he)
        go_wp2
        go_roundw
        case rel => exact ⟨v, out, f, i + 1, rfl, rfl, by go_num, by omega, by omega, by omega, ho, show _ = _ by rw [H.out, hn.out], hb⟩
        case measure => simp [intOf]; omega
    · have hn := Lib.hid (rest_end s hfi (show i = s.size by omega))
      by_cases hf : f < s.size
      · have hz := extract_size s f s.size (by omega)
        have hst := strs_one wr (s.extract f s.size) (by rw [hz]; unfold maxLen; omega)
        clear hz
        have hz1 := hb.size
        go_wp2_with (at_builtin; refine app_strs (.tmp 30) (.tmp 34) w.heap.size v out (ho.below (below_alloc _ _)) _ 1 1 [s.extract f s.size] hst (by omega) (by simp; omega) rfl rfl rfl rfl ?_; intro v1 w1 o1 g1 p1)
        go_ret
        refine ⟨v1, rfl, ?_, (Below.alloc hb hz1 _).grown g1 (by simp; omega) (fun b e => (ho.lt e).1)⟩
        have h := H.out
        rw [hn.out, if_pos hf] at h
        rw [h]
        exact o1
      · go_wp2
        go_ret
        refine ⟨v, rfl, ?_, hb⟩
        have h := H.out
        rw [hn.out, if_neg hf, List.append_nil] at h
        rw [h]
        exact ho

end Go.Proofs.YtnnaigoomipklaaGreatDoor
