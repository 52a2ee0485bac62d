/-
  Plain facts on good orders and their text: no Go, no program.
-/
import Derived.Test.YtnnaigoomipklaaGreatDoorOgOBase
import Derived.Test.YtnnaigoomipklaaGreatDoorOgSMath
set_option linter.unusedSimpArgs false
set_option linter.unusedVariables false
namespace Go.Proofs.YtnnaigoomipklaaGreatDoor.M
open Go

/-- A dot alone. -/
def dotA : ByteArray := ⟨#[46, 10]⟩
def lineO (s : ByteArray) : Bool := lineB s && (endsB s && decide (s ≠ dotA))
/-- The lines of an order. -/
def linesO (l : List ByteArray) : Bool := l.all lineO && (decide (1 ≤ l.length) && decide (l.length ≤ 40))
def orderB (x : Od) : Bool :=
  decide (0 ≤ x.fr) && decide (x.fr ≤ 1000) && (decide (x.fr ≤ x.to_) && decide (x.to_ ≤ 1000)) &&
  (if x.kd = 1 then decide (x.to_ = x.fr) && linesO x.new
   else if x.kd = 2 then decide (x.to_ = x.fr) && decide (1 ≤ x.fr) && linesO x.new
   else if x.kd = 3 then decide (1 ≤ x.fr) && linesO x.new
   else if x.kd = 4 then decide (1 ≤ x.fr) && decide (x.new.length = 0)
   else decide (x.kd = 5) && decide (1 ≤ x.fr) && decide (x.to_ = x.fr) && decide (x.new.length = 0))
def ordersB (p : List Od) : Bool := p.all orderB && decide (p.length ≤ 60)

def wordO (k : Int) : List UInt8 := if k = 1 then [97] else if k = 2 then [105] else if k = 3 then [99] else if k = 4 then [100] else if k = 5 then [115, 47, 46, 47, 47] else []
def headA (x : Od) : List UInt8 := numsL x.fr.toNat x.to_.toNat ++ (wordO x.kd ++ [10])
/-- The lines of an order's text. -/
def orderA (x : Od) : List ByteArray := ⟨(headA x).toArray⟩ :: (if x.new.length = 0 then [] else x.new ++ [dotA])
def ordersA (p : List Od) : List ByteArray := p.flatMap orderA
def ordersT (p : List Od) : ByteArray := cat (ordersA p)
def ordersO (p : List Od) : ByteArray × Bool := if ordersB p = true ∧ (ordersT p).size ≤ 3000 then (ordersT p, true) else (⟨#[]⟩, false)

/-- What an order is, by its kind. -/
theorem order_cases {x : Od} (h : orderB x = true) : ∃ a b : Nat, x.fr = (a : Int) ∧ x.to_ = (b : Int) ∧ a ≤ b ∧ b ≤ 1000 ∧
    ((x.kd = 1 ∧ a = b ∧ linesO x.new = true) ∨ (x.kd = 2 ∧ a = b ∧ 1 ≤ a ∧ linesO x.new = true) ∨ (x.kd = 3 ∧ 1 ≤ a ∧ linesO x.new = true) ∨ (x.kd = 4 ∧ 1 ≤ a ∧ x.new = []) ∨ (x.kd = 5 ∧ 1 ≤ a ∧ a = b ∧ x.new = [])) := by
  unfold orderB at h
  simp only [Bool.and_eq_true, decide_eq_true_eq] at h
  obtain ⟨⟨⟨h1, h2⟩, h3, h4⟩, h5⟩ := h
  refine ⟨x.fr.toNat, x.to_.toNat, by omega, by omega, by omega, by omega, ?_⟩
  split at h5
  · rename_i e
    simp only [Bool.and_eq_true, decide_eq_true_eq] at h5
    exact .inl ⟨e, by omega, h5.2⟩
  · split at h5
    · rename_i e
      simp only [Bool.and_eq_true, decide_eq_true_eq] at h5
      exact .inr (.inl ⟨e, by omega, by omega, h5.2⟩)
    · split at h5
      · rename_i e
        simp only [Bool.and_eq_true, decide_eq_true_eq] at h5
        exact .inr (.inr (.inl ⟨e, by omega, h5.2⟩))
      · split at h5
        · rename_i e
          simp only [Bool.and_eq_true, decide_eq_true_eq] at h5
          exact .inr (.inr (.inr (.inl ⟨e, by omega, List.eq_nil_of_length_eq_zero h5.2⟩)))
        · simp only [Bool.and_eq_true, decide_eq_true_eq] at h5
          exact .inr (.inr (.inr (.inr ⟨h5.1.1.1, by omega, by omega, List.eq_nil_of_length_eq_zero h5.2⟩)))
theorem lines_cases {l : List ByteArray} (h : linesO l = true) : (∀ s ∈ l, lineB s = true ∧ endsB s = true ∧ s ≠ dotA) ∧ 1 ≤ l.length ∧ l.length ≤ 40 := by
  unfold linesO lineO at h
  simp only [Bool.and_eq_true, decide_eq_true_eq, List.all_eq_true] at h
  exact ⟨fun s hs => ⟨(h.1 s hs).1, (h.1 s hs).2.1, (h.1 s hs).2.2⟩, h.2.1, h.2.2⟩
theorem order_lines {x : Od} (h : orderB x = true) : (∀ s ∈ x.new, lineB s = true ∧ endsB s = true ∧ s ≠ dotA) ∧ x.new.length ≤ 40 := by
  obtain ⟨a, b, _, _, _, _, h5⟩ := order_cases h
  rcases h5 with ⟨_, _, h5⟩ | ⟨_, _, _, h5⟩ | ⟨_, _, h5⟩ | ⟨_, _, h5⟩ | ⟨_, _, _, h5⟩
  · exact ⟨(lines_cases h5).1, (lines_cases h5).2.2⟩
  · exact ⟨(lines_cases h5).1, (lines_cases h5).2.2⟩
  · exact ⟨(lines_cases h5).1, (lines_cases h5).2.2⟩
  · rw [h5]; simp
  · rw [h5]; simp
theorem orders_all {p : List Od} (h : ordersB p = true) : p.all orderB = true ∧ p.length ≤ 60 := by
  unfold ordersB at h
  simpa using h

/-! Orders read. -/

def numc (c : UInt8) : Bool := digB c || c == 44
def kindO (q : List UInt8) : Nat := if q = [97] then 1 else if q = [105] then 2 else if q = [99] then 3 else if q = [100] then 4 else if q = [115, 47, 46, 47, 47] then 5 else 0
/-- A head: the kind and both numbers. -/
def hdO (s : List UInt8) : Option (Nat × Nat × Nat) :=
  match pairL (s.takeWhile numc) with
  | none => none
  | some (a, b) => if kindO (s.dropWhile numc) = 0 then none else some (kindO (s.dropWhile numc), a, b)
/-- The lines ahead of a dot alone, and those behind it. -/
def spanO : List ByteArray → Option (List ByteArray × List ByteArray)
  | [] => none
  | s :: r => if s = dotA then some ([], r) else (spanO r).map fun x => (s :: x.1, x.2)
theorem spanO_len : ∀ {l : List ByteArray} {x : List ByteArray × List ByteArray}, spanO l = some x → x.1.length + x.2.length + 1 = l.length
  | [], x, h => by simp [spanO] at h
  | s :: r, x, h => by
    unfold spanO at h
    split at h
    · injection h with h; subst h; simp
    · cases hq : spanO r with
      | none => rw [hq] at h; simp at h
      | some y =>
        rw [hq] at h
        simp at h
        subst h
        have := spanO_len hq
        simp; omega
/-- The orders that lines spell. -/
def readO : Nat → List ByteArray → Option (List Od)
  | _, [] => some []
  | 0, _ :: _ => none
  | n + 1, h :: l =>
    match hdO (plain h).data.toList with
    | none => none
    | some (k, a, b) =>
      if k ≤ 3 then
        match spanO l with
        | none => none
        | some x => (readO n x.2).map fun r => ⟨(k : Int), (a : Int), (b : Int), x.1⟩ :: r
      else (readO n l).map fun r => ⟨(k : Int), (a : Int), (b : Int), []⟩ :: r
/-- The orders that a text spells. -/
def textOrders (s : ByteArray) : Option (List Od) :=
  match readO s.size (cutOf s) with
  | none => none
  | some p => if s.size ≤ 3000 ∧ ordersB p = true ∧ ordersT p = s then some p else none

theorem word_cases {k : Int} (h : k = 1 ∨ k = 2 ∨ k = 3 ∨ k = 4 ∨ k = 5) : ∃ c r, wordO k = c :: r ∧ numc c = false ∧ (10 : UInt8) ∉ wordO k ∧ (kindO (wordO k) : Int) = k := by
  rcases h with rfl | rfl | rfl | rfl | rfl
  · exact ⟨97, [], rfl, by decide, by decide, by decide⟩
  · exact ⟨105, [], rfl, by decide, by decide, by decide⟩
  · exact ⟨99, [], rfl, by decide, by decide, by decide⟩
  · exact ⟨100, [], rfl, by decide, by decide, by decide⟩
  · exact ⟨115, _, rfl, by decide, by decide, by decide⟩
theorem order_kind {x : Od} (h : orderB x = true) : x.kd = 1 ∨ x.kd = 2 ∨ x.kd = 3 ∨ x.kd = 4 ∨ x.kd = 5 := by
  obtain ⟨a, b, _, _, _, _, h5⟩ := order_cases h
  rcases h5 with h5 | h5 | h5 | h5 | h5 <;> simp [h5.1]
theorem takeWhile_hit {p : UInt8 → Bool} : ∀ {l : List UInt8} {c : UInt8} {r : List UInt8}, (∀ d ∈ l, p d = true) → p c = false → (l ++ c :: r).takeWhile p = l ∧ (l ++ c :: r).dropWhile p = c :: r
  | [], c, r, _, hc => by simp [hc]
  | d :: l, c, r, hl, hc => by
    have ih := takeWhile_hit (l := l) (c := c) (r := r) (fun e he => hl e (by simp [he])) hc
    have hd := hl d (by simp)
    simp [hd, ih.1, ih.2]
theorem hdO_back {x : Od} (h : orderB x = true) : hdO (numsL x.fr.toNat x.to_.toNat ++ wordO x.kd) = some (x.kd.toNat, x.fr.toNat, x.to_.toNat) := by
  obtain ⟨a, b, e1, e2, h1, h2, _⟩ := order_cases h
  have hk := order_kind h
  obtain ⟨c, r, e3, hc, _, hk2⟩ := word_cases hk
  have ht := takeWhile_hit (p := numc) (l := numsL x.fr.toNat x.to_.toNat) (c := c) (r := r) (fun d hd => by
    rcases nums_bytes hd with h | h
    · simp [numc, h]
    · simp [numc, h]) hc
  unfold hdO
  rw [e3, ht.1, ht.2, ← e3, nums_back (by omega) (by omega)]
  have hn : kindO (wordO x.kd) ≠ 0 := fun e => by rw [e] at hk2; rcases hk with h | h | h | h | h <;> rw [h] at hk2 <;> exact absurd hk2 (by decide)
  simp only []
  rw [if_neg hn]
  have : kindO (wordO x.kd) = x.kd.toNat := by omega
  rw [this]
theorem head_plain {l : List UInt8} : plain ⟨(l ++ [10]).toArray⟩ = ⟨l.toArray⟩ := by
  have he : endsB (⟨(l ++ [10]).toArray⟩ : ByteArray) = true := by simp [endsB]
  apply bytes_ext
  rw [plain_ends he]
  have hs : (⟨(l ++ [10]).toArray⟩ : ByteArray).size = l.length + 1 := by simp [ByteArray.size]
  rw [hs, ByteArray.data_extract, Array.toList_extract]
  simp
theorem span_back : ∀ {l : List ByteArray} {r : List ByteArray}, (∀ s ∈ l, s ≠ dotA) → spanO (l ++ dotA :: r) = some (l, r)
  | [], r, _ => by simp [spanO]
  | s :: l, r, h => by
    have ih := span_back (l := l) (r := r) (fun t ht => h t (by simp [ht]))
    rw [List.cons_append, spanO, if_neg (h s (by simp)), ih]
    rfl
/-- What good orders spell is read as they are. -/
theorem readO_back : ∀ (p : List Od) (n : Nat), p.length ≤ n → p.all orderB = true → readO n (ordersA p) = some p
  | [], n, _, _ => by cases n <;> rfl
  | x :: p, 0, h, _ => by simp at h
  | x :: p, n + 1, hn, ha => by
    rw [List.all_cons, Bool.and_eq_true] at ha
    have ih := readO_back p n (by simpa using hn) ha.2
    have hb := hdO_back ha.1
    obtain ⟨a, b, e1, e2, h1, h2, h5⟩ := order_cases ha.1
    have eL : ordersA (x :: p) = (⟨(headA x).toArray⟩ : ByteArray) :: ((if x.new.length = 0 then [] else x.new ++ [dotA]) ++ ordersA p) := rfl
    have hp : plain (⟨(headA x).toArray⟩ : ByteArray) = ⟨(numsL x.fr.toNat x.to_.toNat ++ wordO x.kd).toArray⟩ := by
      unfold headA
      rw [← List.append_assoc]
      exact head_plain
    have hfin : ∀ new, new = x.new → (⟨((x.kd.toNat : Nat) : Int), ((x.fr.toNat : Nat) : Int), ((x.to_.toNat : Nat) : Int), new⟩ : Od) = x := by
      intro new hnew
      have hk := order_kind ha.1
      apply Od.ext_ <;> simp only [] <;> first | assumption | omega
    rw [eL, readO, hp, List.toList_toArray, hb]
    simp only []
    have hlines : x.kd.toNat ≤ 3 → linesO x.new = true := by
      intro hk
      rcases h5 with h5 | h5 | h5 | h5 | h5
      · exact h5.2.2
      · exact h5.2.2.2
      · exact h5.2.2
      · have := h5.1; omega
      · have := h5.1; omega
    have hnone : ¬ x.kd.toNat ≤ 3 → x.new = [] := by
      intro hk
      rcases h5 with h5 | h5 | h5 | h5 | h5
      · have := h5.1; omega
      · have := h5.1; omega
      · have := h5.1; omega
      · exact h5.2.2
      · exact h5.2.2.2
    by_cases hk : x.kd.toNat ≤ 3
    · obtain ⟨g1, g2, g3⟩ := lines_cases (hlines hk)
      rw [if_pos hk, if_neg (by omega), List.append_assoc, List.singleton_append, span_back (fun s hs => (g1 s hs).2.2)]
      simp only []
      rw [ih, Option.map_some, hfin _ rfl]
    · have hnew := hnone hk
      rw [if_neg hk, hnew]
      simp only [List.length_nil, if_true, List.nil_append]
      rw [ih, Option.map_some, hfin _ hnew.symm]

/-! Every line of the text ends in a byte 10 and has no other. -/

theorem lineOk_of {s : ByteArray} (h1 : lineB s = true) (h2 : endsB s = true) : lineOk s.data.toList := by
  have h10 := line_no10 h1
  unfold endsB at h2
  have he2 : s.data.toList.getLast? = some 10 := by simpa using h2
  have hne : s.data.toList ≠ [] := fun e => by rw [e] at he2; simp at he2
  have hlast : s.data.toList.getLast hne = 10 := by
    rw [List.getLast?_eq_some_getLast hne] at he2
    exact Option.some.inj he2
  have := List.dropLast_concat_getLast hne
  rw [hlast] at this
  exact ⟨s.data.toList.dropLast, this.symm, h10⟩
theorem head_lineOk {x : Od} (h : orderB x = true) : lineOk (headA x) := by
  obtain ⟨c, r, _, _, hw, _⟩ := word_cases (order_kind h)
  refine ⟨numsL x.fr.toNat x.to_.toNat ++ wordO x.kd, by unfold headA; rw [List.append_assoc], fun hm => ?_⟩
  rcases List.mem_append.1 hm with hm | hm
  · exact nums_no10 hm
  · exact hw hm
theorem orders_lines {p : List Od} (h : p.all orderB = true) : ∀ t ∈ ordersA p, lineOk t.data.toList := by
  intro t ht
  obtain ⟨x, hm, ht⟩ := List.mem_flatMap.1 ht
  have hx := List.all_eq_true.1 h x hm
  unfold orderA at ht
  rcases List.mem_cons.1 ht with rfl | ht
  · rw [List.toList_toArray]; exact head_lineOk hx
  · split at ht
    · simp at ht
    · rcases List.mem_append.1 ht with ht | ht
      · exact lineOk_of ((order_lines hx).1 t ht).1 ((order_lines hx).1 t ht).2.1
      · simp at ht
        subst ht
        exact ⟨[46], rfl, by decide⟩
/-- Lines are cut as they are. -/
theorem cut_lines {l : List ByteArray} (h : ∀ s ∈ l, lineOk s.data.toList) : cutOf (cat l) = l := by
  unfold cutOf cat
  rw [List.toList_toArray]
  unfold catL
  rw [cutGo_lines _ (fun s hs => by obtain ⟨t, ht, rfl⟩ := List.mem_map.1 hs; exact h t ht), List.map_map]
  exact List.map_id'' (fun s => rfl) _
theorem cut_orders {p : List Od} (h : p.all orderB = true) : cutOf (ordersT p) = ordersA p := cut_lines (orders_lines h)

theorem ordersA_len (p : List Od) : p.length ≤ (ordersA p).length := by
  induction p with
  | nil => simp
  | cons x p ih =>
    have e : ordersA (x :: p) = orderA x ++ ordersA p := rfl
    rw [e, List.length_append]
    have : 1 ≤ (orderA x).length := by unfold orderA; simp
    simp; omega
theorem cutGo_len : ∀ (r cur : List UInt8), (cutGo cur r).length ≤ cur.length + r.length
  | [], cur => by unfold cutGo; split <;> simp; rename_i h; exact Nat.pos_of_ne_zero fun e => h (List.eq_nil_of_length_eq_zero e)
  | c :: r, cur => by
    unfold cutGo
    split
    · have := cutGo_len r []
      simp at this ⊢; omega
    · have := cutGo_len r (cur ++ [c])
      simp at this ⊢; omega
theorem cutOf_len (s : ByteArray) : (cutOf s).length ≤ s.size := by
  have := cutGo_len s.data.toList []
  unfold cutOf
  simpa using this

theorem textOrders_some {s : ByteArray} {p : List Od} : textOrders s = some p ↔ s.size ≤ 3000 ∧ ordersB p = true ∧ ordersT p = s := by
  constructor
  · intro h
    unfold textOrders at h
    split at h
    · cases h
    · split at h
      · rename_i hc
        obtain rfl := Option.some.inj h
        exact hc
      · cases h
  · rintro ⟨h1, h2, rfl⟩
    have h3 := (orders_all h2).1
    have h4 := ordersA_len p
    have h5 := cutOf_len (ordersT p)
    rw [cut_orders h3] at h5
    unfold textOrders
    rw [cut_orders h3, readO_back p _ (by omega) h3]
    exact if_pos ⟨h1, h2, rfl⟩

end Go.Proofs.YtnnaigoomipklaaGreatDoor.M
