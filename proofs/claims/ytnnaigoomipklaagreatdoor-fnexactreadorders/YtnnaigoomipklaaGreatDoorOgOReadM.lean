/-
  How the program's reader reads orders: mathematics.
-/
import Derived.Test.YtnnaigoomipklaaGreatDoorOgRReads
import Derived.Test.YtnnaigoomipklaaGreatDoorOgOReadS
set_option linter.unusedSimpArgs false
set_option linter.unusedVariables false
namespace Go.Proofs.YtnnaigoomipklaaGreatDoor.M
open Go

/-- Lines are read up to a dot alone. -/
def rDot : Nat → List UInt8 × Bool → List (List UInt8) × (List UInt8 × Bool)
  | 0, r => ([], r)
  | n + 1, r => if (rPlain r).2.2 = true ∨ (rPlain r).1 = [46] then ([], (rPlain r).2) else (((rPlain r).1 ++ [10]) :: (rDot n (rPlain r).2).1, (rDot n (rPlain r).2).2)
theorem rDot_stop {n : Nat} {r : List UInt8 × Bool} (h : (rPlain r).2.2 = true ∨ (rPlain r).1 = [46]) : rDot (n + 1) r = ([], (rPlain r).2) := if_pos h
theorem rDot_go {n : Nat} {r : List UInt8 × Bool} (h1 : (rPlain r).2.2 = false) (h2 : (rPlain r).1 ≠ [46]) : rDot (n + 1) r = (((rPlain r).1 ++ [10]) :: (rDot n (rPlain r).2).1, (rDot n (rPlain r).2).2) := if_neg (by rw [h1]; simp [h2])
theorem rPlain_ok {r : List UInt8 × Bool} (h : (rPlain r).2.2 = false) : (rPlain r).1.length + (rPlain r).2.1.length < r.1.length := by
  have hc := cut_le r.1
  unfold rPlain at h ⊢
  split at h
  · rename_i h2
    rw [if_pos h2]
    exact hc.2 h2
  · cases h
theorem rDot_le : ∀ (n : Nat) (r : List UInt8 × Bool), (rDot n r).2.1.length ≤ r.1.length ∧ (rDot n r).1.length ≤ r.1.length ∧ ∀ s ∈ (rDot n r).1, s.length ≤ r.1.length + 1
  | 0, r => by simp [rDot]
  | n + 1, r => by
    have h1 := rPlain_le r
    unfold rDot
    split
    · exact ⟨h1.2.1, by simp, by simp⟩
    · rename_i hc
      have h2 := rPlain_ok (r := r) (by cases h : (rPlain r).2.2 with | false => rfl | true => exact absurd (.inl h) hc)
      have ih := rDot_le n (rPlain r).2
      refine ⟨by dsimp only; omega, by dsimp only [List.length_cons]; omega, fun s hs => ?_⟩
      rcases List.mem_cons.1 hs with rfl | hs
      · simp; omega
      · have := ih.2.2 s hs; omega

/-- A head that ends in the word of a kind. -/
def sufB (w h : List UInt8) : Bool := decide (w.length ≤ h.length) && decide (h.drop (h.length - w.length) = w)
def rTry (h : List UInt8) (k : Nat) : Option (Nat × Nat) := if sufB (wordO k) h = true then pairL (h.take (h.length - (wordO k).length)) else none
/-- The first kind from k on that fits. -/
def rFrom (h : List UInt8) : Nat → Nat → Option (Nat × Nat × Nat)
  | 0, _ => none
  | n + 1, k => match rTry h k with
    | some (a, b) => some (k, a, b)
    | none => rFrom h n (k + 1)
theorem rFrom_yes {h : List UInt8} {n k a b : Nat} (e : rTry h k = some (a, b)) : rFrom h (n + 1) k = some (k, a, b) := by rw [rFrom, e]
theorem rFrom_no {h : List UInt8} {n k : Nat} (e : rTry h k = none) : rFrom h (n + 1) k = rFrom h n (k + 1) := by rw [rFrom, e]
/-- One order is read. -/
def rOrder (r : List UInt8 × Bool) : Od × (List UInt8 × Bool) :=
  match rFrom (rPlain r).1 5 1 with
  | some (k, a, b) => if k ≤ 3 then (⟨k, a, b, (rDot ((rPlain r).2.1.length + 1) (rPlain r).2).1.map bs⟩, (rDot ((rPlain r).2.1.length + 1) (rPlain r).2).2) else (⟨k, a, b, []⟩, (rPlain r).2)
  | none => (blankO, ([], true))
theorem rOrder_none {r : List UInt8 × Bool} (h : rFrom (rPlain r).1 5 1 = none) : rOrder r = (blankO, ([], true)) := by unfold rOrder; rw [h]
theorem rOrder_in {r : List UInt8 × Bool} {k a b : Nat} (h : rFrom (rPlain r).1 5 1 = some (k, a, b)) (hk : k ≤ 3) : rOrder r = (⟨k, a, b, (rDot ((rPlain r).2.1.length + 1) (rPlain r).2).1.map bs⟩, (rDot ((rPlain r).2.1.length + 1) (rPlain r).2).2) := by unfold rOrder; rw [h]; exact if_pos hk
theorem rOrder_bare {r : List UInt8 × Bool} {k a b : Nat} (h : rFrom (rPlain r).1 5 1 = some (k, a, b)) (hk : ¬ k ≤ 3) : rOrder r = (⟨k, a, b, []⟩, (rPlain r).2) := by unfold rOrder; rw [h]; exact if_neg hk
theorem rOrder_lt {r : List UInt8 × Bool} (h : r.1 ≠ []) : (rOrder r).2.1.length < r.1.length := by
  have h0 := List.length_pos_iff.2 h
  have h1 := (rPlain_le r).2.2 h
  unfold rOrder
  split
  · split
    · have := (rDot_le ((rPlain r).2.1.length + 1) (rPlain r).2).1
      dsimp only
      omega
    · exact h1
  · simpa using h0
/-- All is read. -/
def rAll : Nat → List UInt8 × Bool → List Od × (List UInt8 × Bool)
  | 0, r => ([], r)
  | n + 1, r => if r.1 = [] then ([], r) else ((rOrder r).1 :: (rAll n (rOrder r).2).1, (rAll n (rOrder r).2).2)
theorem rAll_done {n : Nat} {r : List UInt8 × Bool} (h : r.1 = []) : rAll n r = ([], r) := by
  cases n with
  | zero => rfl
  | succ n => exact if_pos h
theorem rAll_go {n : Nat} {r : List UInt8 × Bool} (h : r.1 ≠ []) : rAll (n + 1) r = ((rOrder r).1 :: (rAll n (rOrder r).2).1, (rAll n (rOrder r).2).2) := if_neg h

/-! What good orders spell is read as they are. -/

theorem rDot_back : ∀ (l : List ByteArray) (t : List UInt8) (n : Nat), l.length < n → (∀ s ∈ l, lineB s = true ∧ endsB s = true ∧ s ≠ dotA) → rDot n (catL l ++ ([46, 10] ++ t), false) = (l.map (·.data.toList), (t, false))
  | _, _, 0, h, _ => by omega
  | [], t, n + 1, _, _ => by
    have e : rPlain (catL [] ++ ([46, 10] ++ t), false) = ([46], (t, false)) := rPlain_hit (p := [46]) (by decide) t false
    rw [rDot_stop (by rw [e]; exact .inr rfl), e]
    rfl
  | s :: l, t, n + 1, hn, h => by
    obtain ⟨h1, h2, h3⟩ := h s (by simp)
    obtain ⟨p, hp, hp10⟩ := lineOk_of h1 h2
    have e : rPlain (catL (s :: l) ++ ([46, 10] ++ t), false) = (p, (catL l ++ ([46, 10] ++ t), false)) := by
      have e1 : catL (s :: l) ++ ([46, 10] ++ t) = p ++ 10 :: (catL l ++ ([46, 10] ++ t)) := by
        unfold catL
        rw [List.map_cons, List.flatten_cons, hp]
        simp
      rw [e1]
      exact rPlain_hit hp10 _ false
    have hpd : p ≠ [46] := fun e2 => h3 (by
      apply bytes_ext
      rw [hp, e2]
      rfl)
    have ih := rDot_back l t n (by simpa using hn) (fun u hu => h u (by simp [hu]))
    rw [rDot_go (by rw [e]) (by rw [e]; exact hpd), e]
    dsimp only
    rw [ih, List.map_cons, hp]
theorem len_le_total {l : List ByteArray} (h : ∀ s ∈ l, 1 ≤ s.size) : l.length ≤ total l := by
  induction l with
  | nil => simp [total]
  | cons s l ih =>
    have h1 := h s (by simp)
    have h2 := ih fun t ht => h t (by simp [ht])
    simp [total]
    omega
theorem suf_at (n w : List UInt8) : sufB w (n ++ w) = true := by
  unfold sufB
  simp
theorem suf_not {n v : List UInt8} {c d : UInt8} (h : c ≠ d) : sufB [c] (n ++ v ++ [d]) = false := by
  unfold sufB
  rw [Bool.and_eq_false_iff]
  right
  apply decide_eq_false
  intro e2
  rw [show (n ++ v ++ [d]).length - [c].length = (n ++ v).length by simp, List.drop_left] at e2
  injection e2 with e3
  exact h e3.symm
theorem rTry_at {k a b : Nat} (h1 : a ≤ b) (h2 : b ≤ 1000) : rTry (numsL a b ++ wordO k) k = some (a, b) := by
  unfold rTry
  rw [if_pos (suf_at _ _), List.length_append, Nat.add_sub_cancel, List.take_left]
  exact nums_back h1 h2
def wc (k : Nat) : UInt8 := if k = 1 then 97 else if k = 2 then 105 else if k = 3 then 99 else 100
theorem wordO_wc {k : Nat} (h1 : 1 ≤ k) (h4 : k ≤ 4) : wordO (k : Int) = [wc k] := by
  have h : k = 1 ∨ k = 2 ∨ k = 3 ∨ k = 4 := by omega
  rcases h with rfl | rfl | rfl | rfl <;> rfl
theorem wc_ne {j k : Nat} (h : j < k) (h1 : 1 ≤ j) (h4 : k ≤ 4) : wc j ≠ wc k := by
  have hj : j = 1 ∨ j = 2 ∨ j = 3 := by omega
  have hk : k = 2 ∨ k = 3 ∨ k = 4 := by omega
  rcases hj with rfl | rfl | rfl <;> rcases hk with rfl | rfl | rfl <;> first | omega | decide
theorem wc_slash {j : Nat} (h1 : 1 ≤ j) (h4 : j ≤ 4) : wc j ≠ 47 := by
  have h : j = 1 ∨ j = 2 ∨ j = 3 ∨ j = 4 := by omega
  rcases h with rfl | rfl | rfl | rfl <;> decide
theorem rTry_not {n : List UInt8} {j k : Nat} (h : j < k) (hj : 1 ≤ j) (hk : k ≤ 5) : rTry (n ++ wordO k) j = none := by
  have hs : sufB (wordO j) (n ++ wordO k) = false := by
    rw [wordO_wc hj (by omega)]
    by_cases h5 : k = 5
    · subst h5
      have := suf_not (n := n) (v := [115, 47, 46, 47]) (wc_slash hj (by omega))
      rw [List.append_assoc] at this
      exact this
    · rw [wordO_wc (by omega) (by omega)]
      have := suf_not (n := n) (v := []) (wc_ne h hj (by omega))
      rw [List.append_nil] at this
      exact this
  unfold rTry
  rw [hs]
  rfl
theorem rFrom_back {k a b : Nat} (hk1 : 1 ≤ k) (hk5 : k ≤ 5) (h1 : a ≤ b) (h2 : b ≤ 1000) : rFrom (numsL a b ++ wordO k) 5 1 = some (k, a, b) := by
  have go : ∀ (j n : Nat), 1 ≤ j → j ≤ k → k < j + n → rFrom (numsL a b ++ wordO k) n j = some (k, a, b) := by
    intro j n
    induction n generalizing j with
    | zero => intro _ _ _; omega
    | succ n ih =>
      intro hj hjk hn
      by_cases e : j = k
      · subst e
        exact rFrom_yes (rTry_at h1 h2)
      · rw [rFrom_no (rTry_not (by omega) hj hk5)]
        exact ih (j + 1) (by omega) (by omega) (by omega)
  exact go 1 5 (by omega) hk1 (by omega)
theorem rOrder_back {x : Od} (h : orderB x = true) (t : List UInt8) : rOrder (headA x ++ ((tailA x).data.toList ++ t), false) = (x, (t, false)) := by
  obtain ⟨a, b, ea, eb, hab, hb, hc⟩ := order_cases h
  obtain ⟨hl1, hl2⟩ := order_lines h
  obtain ⟨kd, fr, to_, new⟩ := x
  dsimp only at ea eb hc hl1 hl2
  subst ea eb
  have hko : kd = 1 ∨ kd = 2 ∨ kd = 3 ∨ kd = 4 ∨ kd = 5 := by omega
  obtain ⟨k, rfl⟩ : ∃ k : Nat, kd = (k : Int) := ⟨kd.toNat, by omega⟩
  have hw10 : (10 : UInt8) ∉ wordO k := by obtain ⟨_, _, _, _, h10, _⟩ := word_cases hko; exact h10
  have hn10 : (10 : UInt8) ∉ numsL a b := fun hd => by
    rcases nums_bytes hd with h | h
    · revert h; decide
    · revert h; decide
  have e : rPlain (headA ⟨(k : Int), (a : Int), (b : Int), new⟩ ++ ((tailA ⟨(k : Int), (a : Int), (b : Int), new⟩).data.toList ++ t), false) = (numsL a b ++ wordO k, ((tailA ⟨(k : Int), (a : Int), (b : Int), new⟩).data.toList ++ t, false)) := by
    have e1 : headA ⟨(k : Int), (a : Int), (b : Int), new⟩ ++ ((tailA ⟨(k : Int), (a : Int), (b : Int), new⟩).data.toList ++ t) = (numsL a b ++ wordO k) ++ 10 :: ((tailA ⟨(k : Int), (a : Int), (b : Int), new⟩).data.toList ++ t) := by
      unfold headA
      simp
    rw [e1]
    exact rPlain_hit (by simp [hn10, hw10]) _ false
  have hf : rFrom (rPlain (headA ⟨(k : Int), (a : Int), (b : Int), new⟩ ++ ((tailA ⟨(k : Int), (a : Int), (b : Int), new⟩).data.toList ++ t), false)).1 5 1 = some (k, a, b) := by
    rw [e]
    exact rFrom_back (by omega) (by omega) hab hb
  by_cases hk : k ≤ 3
  · have hne : new.length ≠ 0 := by
      rcases hc with ⟨h, _, h'⟩ | ⟨h, _, _, h'⟩ | ⟨h, _, h'⟩ | ⟨h, _, h'⟩ | ⟨h, _, _, h'⟩
      · have := (lines_cases h').2.1; omega
      · have := (lines_cases h').2.1; omega
      · have := (lines_cases h').2.1; omega
      · omega
      · omega
    have et : (tailA ⟨(k : Int), (a : Int), (b : Int), new⟩).data.toList ++ t = catL new ++ ([46, 10] ++ t) := by
      unfold tailA
      rw [if_neg hne, ByteArray.data_append, Array.toList_append]
      have : (cat new).data.toList = catL new := by simp [cat]
      rw [this, List.append_assoc]
      rfl
    rw [rOrder_in hf hk, e, et]
    dsimp only
    rw [rDot_back new t _ ?_ hl1]
    · simp only [List.map_map]
      have : new.map ((bs ·) ∘ (·.data.toList)) = new := by
        rw [show ((bs ·) ∘ (fun x : ByteArray => x.data.toList)) = id from funext fun s => bs_self s, List.map_id]
      simpa using this
    · have h5 : new.length ≤ (catL new).length := by
        have h6 : (cat new).size = (catL new).length := by simp [cat, ByteArray.size]
        rw [← h6, cat_size]
        exact len_le_total fun s hs => (lineB_size (hl1 s hs).1).1
      rw [List.length_append]
      omega
  · have hne : new = [] := by
      rcases hc with ⟨h, _, h'⟩ | ⟨h, _, _, h'⟩ | ⟨h, _, h'⟩ | ⟨h, _, h'⟩ | ⟨h, _, _, h'⟩
      · omega
      · omega
      · omega
      · exact h'
      · exact h'
    rw [rOrder_bare hf hk, e, hne]
    rfl
theorem ordersT_cons (x : Od) (p : List Od) : (ordersT (x :: p)).data.toList = headA x ++ ((tailA x).data.toList ++ (ordersT p).data.toList) := by
  have e : ordersA (x :: p) = orderA x ++ ordersA p := rfl
  unfold ordersT
  rw [e, cat_two, orderA_cat, ByteArray.data_append, Array.toList_append, ByteArray.data_append, Array.toList_append, List.append_assoc]
theorem headA_pos (x : Od) : headA x ≠ [] := by unfold headA; simp
theorem rAll_back : ∀ (p : List Od) (n : Nat), p.length ≤ n → p.all orderB = true → rAll n ((ordersT p).data.toList, false) = (p, ([], false))
  | [], n, _, _ => rAll_done rfl
  | x :: p, 0, h, _ => by simp at h
  | x :: p, n + 1, hn, ha => by
    rw [List.all_cons, Bool.and_eq_true] at ha
    have ih := rAll_back p n (by simpa using hn) ha.2
    rw [ordersT_cons, rAll_go (by simp [headA_pos]), rOrder_back ha.1, ih]

/-- The answer, told by what has been read. -/
theorem readOr_is (s : ByteArray) (hs : s.size ≤ 3000) {o : List Od} {r : List UInt8 × Bool} (h : rAll (s.size + 1) (s.data.toList, false) = (o, r)) :
    readOr s = if r.2 = false ∧ (ordersO o).2 = true ∧ (ordersO o).1 = s then (o, 0, true) else ([], 1, false) := by
  split
  · rename_i hc
    apply readOr_some
    rw [textOrders_some]
    have h2 := hc.2.1
    have h3 := hc.2.2
    unfold ordersO at h2 h3
    split at h2
    · rename_i hq
      rw [if_pos hq] at h3
      exact ⟨hs, hq.1, h3⟩
    · cases h2
  · rename_i hc
    apply readOr_none
    cases ht : textOrders s with
    | none => rfl
    | some p =>
      exfalso
      apply hc
      obtain ⟨_, h2, h3⟩ := textOrders_some.1 ht
      have h4 := rAll_back p (s.size + 1) (by
        have h5 := ordersA_len p
        have h6 := cut_orders (orders_all h2).1
        have h7 := cutOf_len (ordersT p)
        rw [h6, h3] at h7
        omega) (orders_all h2).1
      rw [h3, h] at h4
      injection h4 with h5 h6
      subst h5 h6
      have h8 : ordersO o = (ordersT o, true) := if_pos ⟨h2, by rw [h3]; exact hs⟩
      rw [h8]
      exact ⟨rfl, rfl, h3⟩

end Go.Proofs.YtnnaigoomipklaaGreatDoor.M
