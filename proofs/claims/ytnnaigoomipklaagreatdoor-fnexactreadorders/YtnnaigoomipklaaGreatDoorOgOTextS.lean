/-
  The text of orders, the model's.
-/
import Derived.Test.YtnnaigoomipklaaGreatDoorOgSTxt
import Derived.Test.YtnnaigoomipklaaGreatDoorOgOGoodS
set_option linter.unusedSimpArgs false
set_option linter.unusedVariables false
namespace Go.Proofs.YtnnaigoomipklaaGreatDoor.M
open Go

theorem cat_two (a b : List ByteArray) : cat (a ++ b) = cat a ++ cat b := by
  apply bytes_ext
  rw [ByteArray.data_append, Array.toList_append]
  simp [cat, catL]
theorem cat_one (s : ByteArray) : cat [s] = s := by
  apply bytes_ext
  simp [cat, catL]
/-- An order's text behind the head. -/
def tailA (x : Od) : ByteArray := if x.new.length = 0 then ⟨#[]⟩ else cat x.new ++ dotA
theorem orderA_cat (x : Od) : cat (orderA x) = ⟨(headA x).toArray⟩ ++ tailA x := by
  unfold orderA tailA
  rw [show ∀ (s : ByteArray) l, s :: l = [s] ++ l from fun _ _ => rfl, cat_two, cat_one]
  split
  · rfl
  · rw [cat_two, cat_one]
theorem ordersT_take {p : List Od} {j : Nat} {x : Od} (h : p[j]? = some x) : ordersT (p.take (j + 1)) = ordersT (p.take j) ++ (⟨(headA x).toArray⟩ ++ tailA x) := by
  have e : ordersA (p.take (j + 1)) = ordersA (p.take j) ++ orderA x := by
    rw [take_snoc h]
    unfold ordersA
    rw [List.flatMap_append]
    simp
  unfold ordersT
  rw [e, cat_two, orderA_cat]
theorem wordO_len (k : Int) : (wordO k).length ≤ 5 := by
  unfold wordO
  split
  · decide
  · split
    · decide
    · split
      · decide
      · split
        · decide
        · split <;> decide
theorem order_size {x : Od} (h : orderB x = true) : total (orderA x) ≤ 1219 := by
  obtain ⟨h1, h2⟩ := order_lines h
  obtain ⟨a, b, e1, e2, h3, h4, _⟩ := order_cases h
  have hs : total x.new ≤ x.new.length * 30 := total_le fun s hs => (lineB_size (h1 s hs).1).2
  have hh : (headA x).length ≤ 17 := by
    unfold headA
    have := numsL_len (a := x.fr.toNat) (b := x.to_.toNat) (by omega) (by omega)
    have := wordO_len x.kd
    simp; omega
  have hz : (⟨(headA x).toArray⟩ : ByteArray).size = (headA x).length := by simp [ByteArray.size]
  have hd : dotA.size = 2 := rfl
  unfold orderA
  rw [show ∀ (s : ByteArray) l, s :: l = [s] ++ l from fun _ _ => rfl, total_append]
  split
  · simp [total, hz]; omega
  · rw [total_append]
    simp [total, hz, hd]; omega
theorem orders_size {p : List Od} (h : p.all orderB = true) : total (ordersA p) ≤ p.length * 1219 := by
  induction p with
  | nil => simp [ordersA, total]
  | cons x p ih =>
    rw [List.all_cons, Bool.and_eq_true] at h
    have h1 := order_size h.1
    have h2 := ih h.2
    have e : ordersA (x :: p) = orderA x ++ ordersA p := rfl
    rw [e, total_append, List.length_cons, Nat.add_mul]
    omega
theorem ordersT_size {p : List Od} (h : ordersB p = true) (j : Nat) : (ordersT (p.take j)).size ≤ 73140 := by
  obtain ⟨h1, h2⟩ := orders_all h
  have h3 : (p.take j).all orderB = true := by
    rw [List.all_eq_true] at h1 ⊢
    exact fun x hx => h1 x (List.mem_of_mem_take hx)
  have h4 := orders_size h3
  unfold ordersT
  rw [cat_size]
  have : (p.take j).length ≤ 60 := by simp; omega
  omega

end Go.Proofs.YtnnaigoomipklaaGreatDoor.M

namespace Go.Proofs.YtnnaigoomipklaaGreatDoor
open Go.RowKit Go.ChangeShapes Go.WideShapes M

set_option maxHeartbeats 400000 in
theorem l1TextO_any (a : Option Addr) (n c : Nat) (l : List ByteArray) (w : World) (hl : Strs w a n l) (ht : total l ≤ 4294967296) :
    Calls Tryz.prog 123 #[.slice a n c] w fun e w' => e = .returned (.string (cat l)) ∧ w = w' := by
  have HL := Lib.hid hl.len
  have hlim := hl.lim
  unfold maxLen at hlim
  go_enter Tryz.func123, Tryz.ntmps123
  go_wp2
  go_loop [3, 8] (fun t i => ∃ k : Nat, ∃ T : ByteArray, i = .int .i64 k ∧ t = .string T ∧ k ≤ n ∧ Hid (T = cat (l.take k))) (fun _ i => n - (intOf i).toNat)
  case atStart => exact ⟨0, _, rfl, rfl, by omega, rfl⟩
  case round =>
    obtain ⟨k, T, rfl, rfl, hk, H⟩ := hrel
    by_cases hlt : k < n
    · obtain ⟨b, off, s, rfl, hs, hsz, hc⟩ := hl.at_ hlt
      have HS := Lib.hid (cat_take_succ hs)
      have hsum : T.size + s.size ≤ 4294967296 := by
        have h1 := total_take_succ hs
        have h2 := total_take_le l (k + 1)
        have h3 := cat_size (l.take k)
        have h4 : T.size = (cat (l.take k)).size := by rw [H.out]
        omega
      clear hs
      go_wp2
      go_round
      case rel => exact ⟨k + 1, _, by go_num, rfl, by omega, show _ = _ by rw [H.out]; exact HS.out⟩
      case measure => simp [intOf]; omega
    · have hf := Lib.hid (show T = cat l by rw [H.out, List.take_of_length_le (by rw [HL.out]; omega)])
      go_wp2
      go_ret
      exact ⟨ret_str hf.out, rfl⟩

theorem l9Words_any (w : World) :
    Calls Tryz.prog 122 #[] w fun e w' => ∃ b, e = .returned (.slice (some ⟨b, 0, none⟩) 6 6) ∧ (∀ k : Nat, k < 6 → w'.cell? ⟨b, k, none⟩ = some (.string (bs (wordO (k : Int))))) ∧ Below w.heap.size w w' := by
  go_enter Tryz.func122, Tryz.ntmps122
  go_wp2
  go_ret
  refine ⟨w.heap.size, rfl, fun k hk => ?_, below_alloc _ _⟩
  match k, hk with
  | 0, _ => simp [wordO, bs]
  | 1, _ => simp [wordO, bs]
  | 2, _ => simp [wordO, bs]
  | 3, _ => simp [wordO, bs]
  | 4, _ => simp [wordO, bs]
  | 5, _ => simp [wordO, bs]

set_option maxHeartbeats 4000000 in
set_option maxRecDepth 100000 in
theorem l9Text_any (a : Option Addr) (n c : Nat) (p : List Od) (w : World) (hp : Ods w a n p) (hgp : ordersB p = true) :
    Calls Tryz.prog 64 #[.slice a n c] w fun e w' => e = .returned (.string (ordersT p)) ∧ Below w.heap.size w w' := by
  have HN := Lib.hid hp.len
  have HALL := Lib.hid (fun x hx => List.all_eq_true.1 (orders_all hgp).1 x hx)
  have hn60 : n ≤ 60 := by rw [← hp.len]; exact (orders_all hgp).2
  have HLEN := Lib.hid (ordersT_size hgp)
  clear hgp
  go_enter Tryz.func64, Tryz.ntmps64
  go_wp2
  go_loopw [3, 8] (fun t i w' => ∃ j : Nat, i = .int .i64 j ∧ j ≤ n ∧ t = .string (ordersT (p.take j)) ∧ Below w.heap.size w w') (fun _ i _ => n - (intOf i).toNat)
  case atStart => exact ⟨0, rfl, by omega, rfl, Below.refl _ _⟩
  case round =>
    obtain ⟨j, rfl, hj, rfl, hb⟩ := hrel
    by_cases hlt : j < n
    · obtain ⟨b, off, A, m, c', x, rfl, hx, d0, d1, d2, d3, hs, hmc, hok⟩ := (hp.below hb).at_ hlt
      have HJ := Lib.hid hx
      have HX := Lib.hid (HALL.out x (List.mem_of_getElem? hx))
      obtain ⟨a0, b0, e1, e2, q1', q2', _⟩ := order_cases HX.out
      obtain ⟨KD, hK1, hK5, e0⟩ : ∃ KD : Nat, 1 ≤ KD ∧ KD ≤ 5 ∧ x.kd = (KD : Int) := by
        rcases order_kind HX.out with h | h | h | h | h
        · exact ⟨1, by omega, by omega, h⟩
        · exact ⟨2, by omega, by omega, h⟩
        · exact ⟨3, by omega, by omega, h⟩
        · exact ⟨4, by omega, by omega, h⟩
        · exact ⟨5, by omega, by omega, h⟩
      have HLN := Lib.hid (order_lines HX.out)
      obtain ⟨kd, fr, to_, new⟩ := x
      dsimp only at e0 e1 e2 hs d0 d1 d2 d3 HLN
      subst e0 e1 e2
      have HL1 := Lib.hid hs.len
      have hm40 : m ≤ 40 := by rw [← hs.len]; exact HLN.out.2
      obtain ⟨W1, HW1⟩ : ∃ W1, Hid (W1 = wr.alloc (.cells #[.int .i64 (KD : Int), .int .i64 (a0 : Int), .int .i64 (b0 : Int), .slice A m c'] 78)) := ⟨_, rfl⟩
      have hB1 := Lib.hid (show Below wr.heap.size wr W1 by rw [HW1.out]; exact below_alloc _ _)
      have k0 : W1.cell? ⟨wr.heap.size, 0, none⟩ = some (.int .i64 (KD : Int)) := by rw [HW1.out]; simp
      have k1 : W1.cell? ⟨wr.heap.size, 1, none⟩ = some (.int .i64 (a0 : Int)) := by rw [HW1.out]; simp
      have k2 : W1.cell? ⟨wr.heap.size, 2, none⟩ = some (.int .i64 (b0 : Int)) := by rw [HW1.out]; simp
      have k3 : W1.cell? ⟨wr.heap.size, 3, none⟩ = some (.slice A m c') := by rw [HW1.out]; simp
      obtain ⟨T0, HT0⟩ : ∃ T0, Hid (ordersT (p.take j) = T0) := ⟨_, rfl⟩
      obtain ⟨T1, HT1⟩ : ∃ T1, Hid (bs (numsL a0 b0) = T1) := ⟨_, rfl⟩
      obtain ⟨T2, HT2⟩ : ∃ T2, Hid (bs (wordO (KD : Int)) = T2) := ⟨_, rfl⟩
      have HZ0 := Lib.hid (show T0.size ≤ 73140 by rw [← HT0.out]; exact HLEN.out j)
      have HZ1 := Lib.hid (show T1.size ≤ 11 by rw [← HT1.out, bs_size]; exact numsL_len (by omega) (by omega))
      have HZ2 := Lib.hid (show T2.size ≤ 5 by rw [← HT2.out, bs_size]; exact wordO_len _)
      rw [HT0.out]
      clear hx hok
      have y1 : (9223372036854775807 < T1.size + T2.size) = False := eq_false (by have := HZ1.out; have := HZ2.out; omega)
      have y2 : (9223372036854775807 < T1.size + T2.size + 1) = False := eq_false (by have := HZ1.out; have := HZ2.out; omega)
      have y3 : (9223372036854775807 < T0.size + (T1.size + T2.size + 1)) = False := eq_false (by have := HZ1.out; have := HZ2.out; have := HZ0.out; omega)
      have i0 : (0 : Int) ≤ (KD : Int) := by omega
      have i1 : (KD : Int) < 6 := by omega
      have i2 : KD < 6 := by omega
      go_wp2
      rw [← HW1.out]
      refine wp_region_held_drew (S := fun w' => w'.cell? ⟨wr.heap.size, 0, none⟩ = some (.int .i64 (KD : Int)) ∧ w'.cell? ⟨wr.heap.size, 1, none⟩ = some (.int .i64 (a0 : Int)) ∧ w'.cell? ⟨wr.heap.size, 2, none⟩ = some (.int .i64 (b0 : Int))) (by kernel_rfl) ?_ (fun hHeld => ?_)
      · exact ⟨k0, k1, k2⟩
      refine wpAnyH_take (i := 0) (v := ?_) (by simp only [List.getElem?_toArray, List.getElem?_cons_succ, List.getElem?_cons_zero]; rfl) (by kernel_rfl) (by kernel_rfl) (by kernel_rfl) (by exact fun _ _ _ h => h) (Or.inl ⟨by rfl, ?_⟩) hHeld ?_
      rotate_left 1
      · (intro w hSw; (try dsimp only at hSw); go_simp; (try with_reducible rfl))
      (try simp only [Act.put, List.setIfInBounds_toArray, List.set_cons_zero, List.set_cons_succ])
      refine wpAnyH_take (i := 1) (v := ?_) (by simp only [List.getElem?_toArray, List.getElem?_cons_succ, List.getElem?_cons_zero]; rfl) (by kernel_rfl) (by kernel_rfl) (by kernel_rfl) (by exact fun _ _ _ h => h) (Or.inl ⟨by rfl, ?_⟩) hHeld ?_
      rotate_left 1
      · (intro w hSw; (try dsimp only at hSw); go_simp; (try with_reducible rfl))
      (try simp only [Act.put, List.setIfInBounds_toArray, List.set_cons_zero, List.set_cons_succ])
      refine wpAnyH_take (i := 2) (v := ?_) (by simp only [List.getElem?_toArray, List.getElem?_cons_succ, List.getElem?_cons_zero]; rfl) (by kernel_rfl) (by kernel_rfl) (by kernel_rfl) (by exact fun _ _ _ h => h) (Or.inl ⟨by rfl, ?_⟩) hHeld ?_
      rotate_left 1
      · (intro w hSw; (try dsimp only at hSw); go_simp; (try with_reducible rfl))
      (try simp only [Act.put, List.setIfInBounds_toArray, List.set_cons_zero, List.set_cons_succ])
      refine wpAnyH_take (i := 3) (v := ?_) (by simp only [List.getElem?_toArray, List.getElem?_cons_succ, List.getElem?_cons_zero]; rfl) (by kernel_rfl) (by kernel_rfl) (by kernel_rfl) (by exact fun _ _ _ h => h) (Or.inl ⟨by rfl, ?_⟩) hHeld ?_
      rotate_left 1
      · (intro w hSw; (try dsimp only at hSw); go_simp; (try with_reducible rfl))
      (try simp only [Act.put, List.setIfInBounds_toArray, List.set_cons_zero, List.set_cons_succ])
      refine wpAnyH_take (i := 4) (v := ?_) (by simp only [List.getElem?_toArray, List.getElem?_cons_succ, List.getElem?_cons_zero]; rfl) (by kernel_rfl) (by kernel_rfl) (by kernel_rfl) (by exact fun _ _ _ h => h) (Or.inl ⟨by rfl, ?_⟩) hHeld ?_
      rotate_left 1
      · (intro w hSw; (try dsimp only at hSw); go_simp; (try with_reducible rfl))
      (try simp only [Act.put, List.setIfInBounds_toArray, List.set_cons_zero, List.set_cons_succ])
      refine wpAnyH_take (i := 7) (v := ?_) (by simp only [List.getElem?_toArray, List.getElem?_cons_succ, List.getElem?_cons_zero]; rfl) (by kernel_rfl) (by kernel_rfl) (by kernel_rfl) (by exact fun _ _ _ h => h) (Or.inl ⟨by rfl, ?_⟩) hHeld ?_
      rotate_left 1
      · (intro w hSw; (try dsimp only at hSw); go_simp; (try with_reducible rfl))
      (try simp only [Act.put, List.setIfInBounds_toArray, List.set_cons_zero, List.set_cons_succ])
      refine wpAnyH_take (i := 8) (v := ?_) (by simp only [List.getElem?_toArray, List.getElem?_cons_succ, List.getElem?_cons_zero]; rfl) (by kernel_rfl) (by kernel_rfl) (by kernel_rfl) (by exact fun _ _ _ h => h) (Or.inl ⟨by rfl, ?_⟩) hHeld ?_
      rotate_left 1
      · (intro w hSw; (try dsimp only at hSw); go_simp; (try with_reducible rfl))
      (try simp only [Act.put, List.setIfInBounds_toArray, List.set_cons_zero, List.set_cons_succ])
      refine wpAnyH_ready (rs := [5]) (by kernel_rfl) (by simp) ?_
      refine AllReadyH.cons (by simp only [List.getElem?_toArray, List.getElem?_cons_succ, List.getElem?_cons_zero]; rfl) (fun K hK => ?_) AllReadyH.nil
      go_simp
      go_at_call 121
      refine (l5Numbers_any a0 b0 (by omega) (by omega) W1.drew).mono ?_
      rintro e w3 ⟨rfl, b3⟩
      rw [HT1.out]
      have B3 := Lib.hid (show Below W1.heap.size W1 w3 from (Below.refl _ W1).drew.next b3)
      refine hK.out _ _ ?_ (fun hHeld => ?_)
      · exact ⟨cell_keep B3.out k0, cell_keep B3.out k1, cell_keep B3.out k2⟩
      clear hK K
      (try simp only [Act.put, List.setIfInBounds_toArray, List.set_cons_zero, List.set_cons_succ])
      refine wpAnyH_ready (rs := [6]) (by kernel_rfl) (by simp) ?_
      refine AllReadyH.cons (by simp only [List.getElem?_toArray, List.getElem?_cons_succ, List.getElem?_cons_zero]; rfl) (fun K hK => ?_) AllReadyH.nil
      go_simp
      go_at_call 122
      refine (l9Words_any w3).mono ?_
      rintro e w4 ⟨gb, rfl, hk, b4⟩
      have B4 := Lib.hid (show Below W1.heap.size W1 w4 from B3.out.next b4)
      have hk0 := hk KD i2
      rw [HT2.out] at hk0
      clear hk
      refine hK.out _ _ ?_ (fun hHeld => ?_)
      · exact ⟨cell_keep B4.out k0, cell_keep B4.out k1, cell_keep B4.out k2⟩
      clear hK K
      (try simp only [Act.put, List.setIfInBounds_toArray, List.set_cons_zero, List.set_cons_succ])
      refine wpAnyH_take (i := 9) (v := ?_) (by simp only [List.getElem?_toArray, List.getElem?_cons_succ, List.getElem?_cons_zero]; rfl) (by kernel_rfl) (by kernel_rfl) (by kernel_rfl) (by exact fun _ _ _ h => h) (Or.inl ⟨by rfl, ?_⟩) hHeld ?_
      rotate_left 1
      · (intro w hSw; (try dsimp only at hSw); go_simp; (try with_reducible rfl))
      (try simp only [Act.put, List.setIfInBounds_toArray, List.set_cons_zero, List.set_cons_succ])
      refine wpAnyH_ready (rs := [10]) (by kernel_rfl) (by simp) ?_
      refine AllReadyH.cons (by simp only [List.getElem?_toArray, List.getElem?_cons_succ, List.getElem?_cons_zero]; rfl) (fun K hK => ?_) AllReadyH.nil
      go_simp
      refine hK.out _ _ ?_ (fun hHeld => ?_)
      · exact hHeld
      clear hK K
      (try simp only [Act.put, List.setIfInBounds_toArray, List.set_cons_zero, List.set_cons_succ])
      refine wpAnyH_take (i := 11) (v := ?_) (by simp only [List.getElem?_toArray, List.getElem?_cons_succ, List.getElem?_cons_zero]; rfl) (by kernel_rfl) (by kernel_rfl) (by kernel_rfl) (by exact fun _ _ _ h => h) (Or.inl ⟨by rfl, ?_⟩) hHeld ?_
      rotate_left 1
      · (intro w hSw; (try dsimp only at hSw); go_simp; (try with_reducible rfl))
      (try simp only [Act.put, List.setIfInBounds_toArray, List.set_cons_zero, List.set_cons_succ])
      refine wpAnyH_take (i := 12) (v := ?_) (by simp only [List.getElem?_toArray, List.getElem?_cons_succ, List.getElem?_cons_zero]; rfl) (by kernel_rfl) (by kernel_rfl) (by kernel_rfl) (by exact fun _ _ _ h => h) (Or.inl ⟨by rfl, ?_⟩) hHeld ?_
      rotate_left 1
      · (intro w hSw; (try dsimp only at hSw); go_simp; (try with_reducible rfl))
      (try simp only [Act.put, List.setIfInBounds_toArray, List.set_cons_zero, List.set_cons_succ])
      refine wpAnyH_take (i := 13) (v := ?_) (by simp only [List.getElem?_toArray, List.getElem?_cons_succ, List.getElem?_cons_zero]; rfl) (by kernel_rfl) (by kernel_rfl) (by kernel_rfl) (by exact fun _ _ _ h => h) (Or.inl ⟨by rfl, ?_⟩) hHeld ?_
      rotate_left 1
      · (intro w hSw; (try dsimp only at hSw); go_simp; (try with_reducible rfl))
      (try simp only [Act.put, List.setIfInBounds_toArray, List.set_cons_zero, List.set_cons_succ])
      refine wpAnyH_take (i := 14) (v := ?_) (by simp only [List.getElem?_toArray, List.getElem?_cons_succ, List.getElem?_cons_zero]; rfl) (by kernel_rfl) (by kernel_rfl) (by kernel_rfl) (by exact fun _ _ _ h => h) (Or.inl ⟨by rfl, ?_⟩) hHeld ?_
      rotate_left 1
      · (intro w hSw; (try dsimp only at hSw); go_simp; (try with_reducible rfl))
      (try simp only [Act.put, List.setIfInBounds_toArray, List.set_cons_zero, List.set_cons_succ])
      refine wpAnyH_done (by kernel_rfl) ?_ _
      replace k3 := cell_keep B4.out k3
      have HS1 := Lib.hid ((hs.below hB1.out).below B4.out)
      have HBN := Lib.hid (hb.next (hB1.out.next B4.out))
      obtain ⟨U, HU⟩ : ∃ U, Hid (T0 ++ (T1 ++ T2 ++ (⟨#[10]⟩ : ByteArray)) = U) := ⟨_, rfl⟩
      have HUE := Lib.hid (show U ++ tailA ⟨(KD : Int), (a0 : Int), (b0 : Int), new⟩ = ordersT (p.take (j + 1)) by
        rw [ordersT_take HJ.out, ← HU.out, HT0.out, ← HT1.out, ← HT2.out]
        unfold headA
        apply bytes_ext
        simp [ByteArray.data_append, bs])
      have HUZ := Lib.hid (show U.size ≤ 73157 by rw [← HU.out]; simp only [ByteArray.size_append]; have := HZ1.out; have := HZ2.out; have := HZ0.out; have e : (⟨#[10]⟩ : ByteArray).size = 1 := rfl; omega)
      clear y1 y2 y3 k0 k1 k2 hk0
      try rw [HU.out]
      by_cases hm : m = 0
      · have hq : decide ((0 : Int) < (m : Int)) = false := by simp [hm]
        have HE := Lib.hid (show U = ordersT (p.take (j + 1)) by
          rw [← HUE.out]
          have : tailA ⟨(KD : Int), (a0 : Int), (b0 : Int), new⟩ = ⟨#[]⟩ := if_pos (show new.length = 0 by rw [HL1.out]; exact hm)
          rw [this]
          apply bytes_ext
          simp [ByteArray.data_append])
        subst hm
        go_wp2
        go_roundw
        case rel => exact ⟨j + 1, by go_num, by omega, congrArg Value.string HE.out, HBN.out⟩
        case measure => simp [intOf]; omega
      · have hq : decide ((0 : Int) < (m : Int)) = true := by simp; omega
        have hq2 : decide (0 < m) = true := by simp; omega
        obtain ⟨C, HC⟩ : ∃ C, Hid (cat new = C) := ⟨_, rfl⟩
        have HTN := Lib.hid (show total new ≤ 1200 by
          have h1 : total new ≤ new.length * 30 := total_le fun s hs => (lineB_size (HLN.out.1 s hs).1).2
          have h2 := HLN.out.2
          omega)
        have HCZ := Lib.hid (show C.size ≤ 1200 by rw [← HC.out, cat_size]; exact HTN.out)
        have HE := Lib.hid (show U ++ (C ++ (⟨#[46, 10]⟩ : ByteArray)) = ordersT (p.take (j + 1)) by
          rw [← HUE.out]
          have : tailA ⟨(KD : Int), (a0 : Int), (b0 : Int), new⟩ = cat new ++ dotA := if_neg (show ¬ new.length = 0 by rw [HL1.out]; exact hm)
          rw [this, HC.out]
          rfl)
        have y4 : (9223372036854775807 < C.size + 2) = False := eq_false (by have := HCZ.out; omega)
        have y5 : (9223372036854775807 < U.size + (C.size + 2)) = False := eq_false (by have := HCZ.out; have := HUZ.out; omega)
        go_wp2_with fail
        refine (l1TextO_any A m c' new _ HS1.out (by have := HTN.out; omega)).mono ?_
        rintro e w5 ⟨rfl, rfl⟩
        rw [HC.out]
        go_wp2
        go_roundw
        case rel => exact ⟨j + 1, by go_num, by omega, congrArg Value.string HE.out, HBN.out⟩
        case measure => simp [intOf]; omega
    · have hf := Lib.hid (show ordersT (p.take j) = ordersT p by rw [List.take_of_length_le (by rw [HN.out]; omega)])
      go_wp2
      go_ret
      exact ⟨ret_str hf.out, hb⟩

end Go.Proofs.YtnnaigoomipklaaGreatDoor
