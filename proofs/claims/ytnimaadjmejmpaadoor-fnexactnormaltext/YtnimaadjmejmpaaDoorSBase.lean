/-
  Plain facts on steps and their text, the plain way: no Go, no program.
-/
import Derived.Test.YtnimaadjmejmpaaDoorNBase
import Derived.Test.YtnimaadjmejmpaaDoorCutM
set_option linter.unusedSimpArgs false
set_option linter.unusedVariables false
namespace Go.Proofs.YtnimaadjmejmpaaDoor.M
open Go

/-- A step: the numbers and the lines of both sides. -/
structure Sp where
  fr : Int
  to_ : Int
  old : List ByteArray
  at_ : Int
  en : Int
  new : List ByteArray

theorem Sp.ext_ {x y : Sp} (h1 : x.fr = y.fr) (h2 : x.to_ = y.to_) (h3 : x.old = y.old) (h4 : x.at_ = y.at_) (h5 : x.en = y.en) (h6 : x.new = y.new) : x = y := by
  cases x; cases y; simp at h1 h2 h3 h4 h5 h6; simp [h1, h2, h3, h4, h5, h6]

/-- Numbers that fit lines on one side. -/
def sideB (a b : Int) (l : List ByteArray) : Bool :=
  decide (0 ≤ a) && decide (a ≤ 1000) && (decide (0 ≤ b) && decide (b ≤ 1000)) && goodB l && (if l.length = 0 then decide (b = a) else decide (1 ≤ a) && decide (b - a + 1 = l.length))
def stepB (x : Sp) : Bool := sideB x.fr x.to_ x.old && sideB x.at_ x.en x.new && decide (0 < x.old.length + x.new.length)
def stepsB (p : List Sp) : Bool := p.all stepB && decide (p.length ≤ 20)

def endsL (l : List UInt8) : Bool := l.getLast? == some 10
def noneL : List UInt8 := [92, 32, 110, 111, 110, 101, 10]
/-- A line that is shown with a sign, in one line or two. -/
def shownL (sign s : List UInt8) : List (List UInt8) := if endsL s then [sign ++ s] else [sign ++ s ++ [10], noneL]
def numsL (a b : Nat) : List UInt8 := if a = b then Lib.decDigits a else Lib.decDigits a ++ 44 :: Lib.decDigits b
def wordL (x : Sp) : UInt8 := if x.old.length = 0 then 97 else if x.new.length = 0 then 100 else 99
def headL (x : Sp) : List UInt8 := numsL x.fr.toNat x.to_.toNat ++ wordL x :: numsL x.at_.toNat x.en.toNat
def ruleL : List UInt8 := [45, 45, 45, 10]
def sideL (sign : List UInt8) (l : List ByteArray) : List (List UInt8) := l.flatMap fun s => shownL sign s.data.toList
/-- The lines of a step's text. -/
def stepL (x : Sp) : List (List UInt8) := (headL x ++ [10]) :: (sideL [60, 32] x.old ++ ((if wordL x = 99 then [ruleL] else []) ++ sideL [62, 32] x.new))
def stepsL (p : List Sp) : List (List UInt8) := p.flatMap stepL
def stepsT (p : List Sp) : List UInt8 := (stepsL p).flatten

/-! Lines cut. -/

/-- A byte 10 at the end and nowhere else. -/
def lineOk (s : List UInt8) : Prop := ∃ p, s = p ++ [10] ∧ (10 : UInt8) ∉ p

theorem cutGo_line : ∀ (p cur r : List UInt8), (10 : UInt8) ∉ p → cutGo cur (p ++ 10 :: r) = ⟨(cur ++ p ++ [10]).toArray⟩ :: cutGo [] r
  | [], cur, r, _ => by rw [List.nil_append, cutGo, if_pos rfl]; simp
  | c :: p, cur, r, h => by
    have h1 : ¬ c = 10 := fun e => h (by simp [e])
    have h2 : (10 : UInt8) ∉ p := fun e => h (by simp [e])
    rw [List.cons_append, cutGo, if_neg h1, cutGo_line p (cur ++ [c]) r h2]; simp
theorem cutGo_lines : ∀ (ls : List (List UInt8)), (∀ s ∈ ls, lineOk s) → cutGo [] ls.flatten = ls.map fun s => ⟨s.toArray⟩
  | [], _ => rfl
  | s :: ls, h => by
    obtain ⟨p, e, hp⟩ := h s (by simp)
    have := cutGo_line p [] ls.flatten hp
    rw [List.flatten_cons, e, List.append_assoc, List.singleton_append, this, cutGo_lines ls (fun t ht => h t (by simp [ht]))]
    simp

/-! Shown lines taken. -/

def takeS (sign : List UInt8) : List (List UInt8) → List (List UInt8) × List (List UInt8)
  | [] => ([], [])
  | s :: [] => if s.length ≤ 2 ∨ s.take 2 ≠ sign then ([], [s]) else ([s.drop 2], [])
  | s :: t :: r =>
    if s.length ≤ 2 ∨ s.take 2 ≠ sign then ([], s :: t :: r)
    else if t = noneL then ((s.drop 2).dropLast :: (takeS sign r).1, (takeS sign r).2)
    else (s.drop 2 :: (takeS sign (t :: r)).1, (takeS sign (t :: r)).2)

theorem takeS_len (sign : List UInt8) : ∀ l : List (List UInt8), (takeS sign l).2.length ≤ l.length
  | [] => by simp [takeS]
  | s :: [] => by rw [takeS]; split <;> simp
  | s :: t :: r => by
    rw [takeS]
    split
    · simp
    · split
      · have := takeS_len sign r; simp; omega
      · have := takeS_len sign (t :: r); simp at this ⊢; omega

/-- What stands behind shown lines begins with none. -/
def stopsS (sign : List UInt8) (r : List (List UInt8)) : Prop := ∀ t r', r = t :: r' → (t.length ≤ 2 ∨ t.take 2 ≠ sign) ∧ t ≠ noneL
theorem takeS_stop {sign : List UInt8} {r : List (List UInt8)} (h : stopsS sign r) : takeS sign r = ([], r) := by
  match r, h with
  | [], _ => rfl
  | [t], h => rw [takeS, if_pos (h t [] rfl).1]
  | t :: u :: r, h => rw [takeS, if_pos (h t _ rfl).1]

theorem shown_take (sign : List UInt8) (hs : sign.length = 2) (hn : ∀ s, sign ++ s ≠ noneL) : ∀ (l : List ByteArray) (r : List (List UInt8)), (∀ s ∈ l, lineB s = true) → stopsS sign r →
    takeS sign (sideL sign l ++ r) = (l.map (·.data.toList), r)
  | [], r, _, hr => by simp [sideL, takeS_stop hr]
  | s :: l, r, hl, hr => by
    have ih := shown_take sign hs hn l r (fun t ht => hl t (by simp [ht])) hr
    have hsz := (lineB_size (hl s (by simp))).1
    have hne : 1 ≤ s.data.toList.length := by simpa using hsz
    have e : sideL sign (s :: l) = shownL sign s.data.toList ++ sideL sign l := rfl
    rw [e, List.append_assoc]
    unfold shownL
    have htk : ∀ q : List UInt8, (sign ++ q).take 2 = sign := fun q => by rw [List.take_append_of_le_length (by omega), List.take_of_length_le (by omega)]
    have hdr : ∀ q : List UInt8, (sign ++ q).drop 2 = q := fun q => by rw [← hs]; simp
    split
    · -- the line has its end
      obtain ⟨R, hR⟩ : ∃ R, R = sideL sign l ++ r := ⟨_, rfl⟩
      rw [← hR] at ih ⊢
      have hRn : ∀ t R', R = t :: R' → t ≠ noneL := by
        intro t R' e1
        rw [hR] at e1
        cases l with
        | nil => exact (hr t R' (by simpa [sideL] using e1)).2
        | cons u l' =>
          have e2 : sideL sign (u :: l') = shownL sign u.data.toList ++ sideL sign l' := rfl
          rw [e2] at e1
          unfold shownL at e1
          split at e1
          · simp at e1; rw [← e1.1]; exact hn _
          · simp at e1; rw [← e1.1, ← List.append_assoc]; rw [List.append_assoc]; exact hn _
      rw [List.singleton_append]
      cases R with
      | nil =>
        have h0 : takeS sign [] = ([], []) := rfl
        rw [h0] at ih
        obtain ⟨i1, i2⟩ := Prod.mk.inj ih
        rw [takeS, if_neg (by rw [htk]; simp; omega), hdr]
        rw [← i2, List.map_cons, ← i1]
      | cons t R' =>
        rw [takeS, if_neg (by rw [htk]; simp; omega), if_neg (hRn t R' rfl), ih, hdr]; rfl
    · rw [List.cons_append, List.cons_append, List.nil_append, takeS, if_neg (by rw [List.append_assoc, htk]; simp; omega), if_pos rfl, ih, List.append_assoc, hdr]
      simp

/-! Heads read. -/

def headAt : List UInt8 → Option (List UInt8 × UInt8 × List UInt8)
  | [] => none
  | c :: r => if c = 97 ∨ c = 99 ∨ c = 100 then some ([], c, r) else (headAt r).map fun x => (c :: x.1, x.2)
def readHead (l : List UInt8) : Option (Nat × Nat × UInt8 × Nat × Nat) :=
  match headAt l with
  | none => none
  | some (p, c, q) =>
    match pairL p, pairL q with
    | some (f, t), some (n, m) => some (f, t, c, n, m)
    | _, _ => none

theorem headAt_hit : ∀ (p : List UInt8) (c : UInt8) (q : List UInt8), (∀ d ∈ p, ¬ (d = 97 ∨ d = 99 ∨ d = 100)) → (c = 97 ∨ c = 99 ∨ c = 100) → headAt (p ++ c :: q) = some (p, c, q)
  | [], c, q, _, hc => by rw [List.nil_append, headAt, if_pos hc]
  | d :: p, c, q, hp, hc => by
    rw [List.cons_append, headAt, if_neg (hp d (by simp)), headAt_hit p c q (fun e he => hp e (by simp [he])) hc]; rfl

theorem dig_range {c : UInt8} (h : digB c = true) : 48 ≤ c.toNat ∧ c.toNat ≤ 57 := (digB_iff c).1 h
theorem nums_bytes {a b : Nat} {c : UInt8} (h : c ∈ numsL a b) : digB c = true ∨ c = 44 := by
  unfold numsL at h
  split at h
  · exact .inl (List.all_eq_true.1 (dec_all a) c h)
  · rcases List.mem_append.1 h with h | h
    · exact .inl (List.all_eq_true.1 (dec_all a) c h)
    · rcases List.mem_cons.1 h with h | h
      · exact .inr h
      · exact .inl (List.all_eq_true.1 (dec_all b) c h)
theorem nums_range {a b : Nat} {c : UInt8} (h : c ∈ numsL a b) : 44 ≤ c.toNat ∧ c.toNat ≤ 57 := by
  rcases nums_bytes h with h | rfl
  · have := dig_range h; omega
  · decide
theorem dec_comma_ (u : Nat) : (44 : UInt8) ∉ Lib.decDigits u := by
  intro h
  have := List.all_eq_true.1 (dec_all u) 44 h
  simp [digB] at this
theorem nums_back {a b : Nat} (h1 : a ≤ b) (h2 : b ≤ 1000) : pairL (numsL a b) = some (a, b) := by
  unfold numsL pairL
  split
  · rename_i e
    subst e
    rw [twoL_none (dec_comma_ _), numL_dec _ (by omega)]
    simp [Option.filter]; omega
  · rw [twoL_hit (dec_comma_ _), numL_dec _ (by omega), numL_dec _ (by omega)]
    simp [Option.filter]; omega
theorem nums_head {a b : Nat} : ∃ c r, numsL a b = c :: r ∧ digB c = true := by
  have h : ∀ r', ∃ c r, Lib.decDigits a ++ r' = c :: r ∧ digB c = true := by
    intro r'
    cases e : Lib.decDigits a with
    | nil => exact absurd e (dec_ne a)
    | cons c r => exact ⟨c, r ++ r', rfl, List.all_eq_true.1 (dec_all a) c (by rw [e]; simp)⟩
  unfold numsL
  split
  · obtain ⟨c, r, e, hc⟩ := h []
    exact ⟨c, r, by simpa using e, hc⟩
  · exact h _

theorem side_le {a b : Int} {l : List ByteArray} (h : sideB a b l = true) : ∃ A B : Nat, a = (A : Int) ∧ b = (B : Int) ∧ A ≤ B ∧ B ≤ 1000 ∧ goodB l = true ∧ (l.length = 0 → A = B) ∧ (l.length ≠ 0 → 1 ≤ A ∧ B + 1 = A + l.length) := by
  unfold sideB at h
  simp only [Bool.and_eq_true, decide_eq_true_eq] at h
  obtain ⟨⟨⟨⟨h1, h2⟩, h3, h4⟩, h5⟩, h6⟩ := h
  refine ⟨a.toNat, b.toNat, by omega, by omega, ?_, by omega, h5, ?_, ?_⟩
  · split at h6
    · simp at h6; omega
    · rename_i hne; simp at h6; omega
  · intro e; rw [if_pos e] at h6; simp at h6; omega
  · intro e; rw [if_neg e] at h6; simp at h6; omega

theorem head_back {x : Sp} (h : stepB x = true) : readHead (headL x) = some (x.fr.toNat, x.to_.toNat, wordL x, x.at_.toNat, x.en.toNat) := by
  unfold stepB at h
  simp only [Bool.and_eq_true] at h
  obtain ⟨A, B, e1, e2, h1, h2, _⟩ := side_le h.1.1
  obtain ⟨C, D, e3, e4, h3, h4, _⟩ := side_le h.1.2
  rw [e1, e2, e3, e4]
  simp only [Int.toNat_natCast]
  have hw : wordL x = 97 ∨ wordL x = 99 ∨ wordL x = 100 := by
    unfold wordL
    split
    · exact .inl rfl
    · split
      · exact .inr (.inr rfl)
      · exact .inr (.inl rfl)
  unfold readHead headL
  rw [e1, e2, e3, e4]
  simp only [Int.toNat_natCast]
  rw [headAt_hit _ _ _ (fun d hd e => by have := nums_range hd; rcases e with rfl | rfl | rfl <;> simp at this) hw]
  simp only []
  rw [nums_back h1 h2, nums_back h3 h4]

/-! Steps read. -/

theorem sub_lt {α : Type} {a b : List α} {h : α} (e : a.length ≤ b.length) : a.length < (h :: b).length := by simp; omega

/-- The steps that lines spell; none where a head is no head. -/
def parseS : Nat → List (List UInt8) → Option (List Sp)
  | _, [] => some []
  | 0, _ :: _ => none
  | k + 1, h :: l =>
    match readHead (if endsL h then h.dropLast else h) with
    | none => none
    | some (f, t, c, n, m) =>
      let o := if c ≠ 97 then takeS [60, 32] l else ([], l)
      let l2 := if c = 99 then o.2.drop 1 else o.2
      let q := if c ≠ 100 then takeS [62, 32] l2 else ([], l2)
      (parseS k q.2).map fun r => ⟨f, t, o.1.map (fun s => ⟨s.toArray⟩), n, m, q.1.map (fun s => ⟨s.toArray⟩)⟩ :: r

theorem lines_back (l : List ByteArray) : (l.map (·.data.toList)).map (fun s => (⟨s.toArray⟩ : ByteArray)) = l := by
  induction l with
  | nil => rfl
  | cons s l ih => rw [List.map_cons, List.map_cons, ih]

theorem head_line {x : Sp} : ∃ c r, headL x ++ [10] = c :: r ∧ digB c = true := by
  obtain ⟨c, r, e, hc⟩ := nums_head (a := x.fr.toNat) (b := x.to_.toNat)
  unfold headL
  rw [e]
  exact ⟨c, _, rfl, hc⟩

theorem stop_of_digit {a b c : UInt8} {r : List UInt8} {l : List (List UInt8)} (hc : digB c = true) (ha : a.toNat < 48 ∨ 57 < a.toNat) : stopsS [a, b] ((c :: r) :: l) := by
  intro t r' e
  injection e with e1 e2
  subst e1
  have hd := dig_range hc
  have hca : c ≠ a := fun e => by subst e; omega
  refine ⟨.inr ?_, ?_⟩
  · intro e
    cases r with
    | nil => simp at e
    | cons d r => simp at e; exact hca e.1
  · intro e
    unfold noneL at e
    injection e with e1 e2
    subst e1
    simp at hd

theorem stop_steps (a b : UInt8) (ha : a.toNat < 48 ∨ 57 < a.toNat) (p : List Sp) : stopsS [a, b] (stepsL p) := by
  cases p with
  | nil => intro t r' e; simp [stepsL] at e
  | cons x p =>
    obtain ⟨c, r, e, hc⟩ := head_line (x := x)
    have e2 : stepsL (x :: p) = (headL x ++ [10]) :: (sideL [60, 32] x.old ++ ((if wordL x = 99 then [ruleL] else []) ++ sideL [62, 32] x.new) ++ stepsL p) := rfl
    rw [e2, e]
    exact stop_of_digit hc ha

theorem good_lines {l : List ByteArray} (h : goodB l = true) : ∀ s ∈ l, lineB s = true := by
  intro s hs
  obtain ⟨j, hj⟩ := List.mem_iff_getElem?.1 hs
  exact (goodB_at h hj).1

/-- What good steps spell is read as they are. -/
theorem parse_back : ∀ (p : List Sp) (k : Nat), p.length ≤ k → p.all stepB = true → parseS k (stepsL p) = some p
  | [], k, _, _ => by cases k <;> rfl
  | x :: p, 0, h, _ => by simp at h
  | x :: p, k + 1, hk, ha => by
    rw [List.all_cons, Bool.and_eq_true] at ha
    have ih := parse_back p k (by simpa using hk) ha.2
    have hb := head_back ha.1
    have hx := ha.1
    unfold stepB at hx
    simp only [Bool.and_eq_true, decide_eq_true_eq] at hx
    obtain ⟨⟨s1, s2⟩, hpos⟩ := hx
    obtain ⟨A, B, e1, e2, h1, h2, g1, z1, n1⟩ := side_le s1
    obtain ⟨C, D, e3, e4, h3, h4, g2, z2, n2⟩ := side_le s2
    have eL : stepsL (x :: p) = (headL x ++ [10]) :: (sideL [60, 32] x.old ++ ((if wordL x = 99 then [ruleL] else []) ++ sideL [62, 32] x.new) ++ stepsL p) := rfl
    have hends : endsL (headL x ++ [10]) = true := by simp [endsL]
    have hnew : takeS [62, 32] (sideL [62, 32] x.new ++ stepsL p) = (x.new.map (·.data.toList), stepsL p) :=
      shown_take [62, 32] rfl (fun s e => by simp [noneL] at e) x.new (stepsL p) (good_lines g2) (stop_steps 62 32 (.inr (by decide)) p)
    have hfin : ∀ (o n : List ByteArray), o = x.old → n = x.new → (⟨(x.fr.toNat : Nat), (x.to_.toNat : Nat), o, (x.at_.toNat : Nat), (x.en.toNat : Nat), n⟩ : Sp) = x := by
      intro o n ho hn
      apply Sp.ext_ <;> simp only [] <;> first | assumption | omega
    rw [eL, parseS, if_pos hends, List.dropLast_concat, hb]
    simp only []
    by_cases w1 : x.old.length = 0
    · have hw : wordL x = 97 := if_pos w1
      have ho : x.old = [] := List.eq_nil_of_length_eq_zero w1
      have hs : sideL [60, 32] x.old = [] := by rw [ho]; rfl
      rw [hw, hs]
      simp only [show ¬ ((97 : UInt8) = 99) by decide, show ((97 : UInt8) ≠ 97) = False by simp, show ((97 : UInt8) ≠ 100) = True by simp, if_false, if_true, List.nil_append]
      rw [hnew]
      simp only []
      rw [ih, lines_back, Option.map_some, hfin _ _ (by rw [ho]; rfl) rfl]
    · by_cases w2 : x.new.length = 0
      · have hw : wordL x = 100 := by unfold wordL; rw [if_neg w1, if_pos w2]
        have hn : x.new = [] := List.eq_nil_of_length_eq_zero w2
        have hs : sideL [62, 32] x.new = [] := by rw [hn]; rfl
        have hold : takeS [60, 32] (sideL [60, 32] x.old ++ stepsL p) = (x.old.map (·.data.toList), stepsL p) :=
          shown_take [60, 32] rfl (fun s e => by simp [noneL] at e) x.old (stepsL p) (good_lines g1) (stop_steps 60 32 (.inr (by decide)) p)
        rw [hw, hs]
        simp only [show ¬ ((100 : UInt8) = 99) by decide, show ((100 : UInt8) ≠ 97) = True by simp, show ((100 : UInt8) ≠ 100) = False by simp, if_false, if_true, List.append_nil]
        rw [hold]
        simp only []
        rw [ih, lines_back, Option.map_some, hfin _ _ rfl (by rw [hn]; rfl)]
      · have hw : wordL x = 99 := by unfold wordL; rw [if_neg w1, if_neg w2]
        have hstop : stopsS [60, 32] (ruleL :: (sideL [62, 32] x.new ++ stepsL p)) := by
          intro t r' e
          injection e with e1 e2
          subst e1
          exact ⟨.inr (by decide), by decide⟩
        have hold : takeS [60, 32] (sideL [60, 32] x.old ++ (ruleL :: (sideL [62, 32] x.new ++ stepsL p))) = (x.old.map (·.data.toList), ruleL :: (sideL [62, 32] x.new ++ stepsL p)) :=
          shown_take [60, 32] rfl (fun s e => by simp [noneL] at e) x.old _ (good_lines g1) hstop
        rw [hw]
        simp only [show ((99 : UInt8) ≠ 97) = True by simp, show ((99 : UInt8) ≠ 100) = True by simp, if_true, List.append_assoc, List.singleton_append, List.cons_append, List.nil_append]
        rw [hold]
        simp only [List.drop_succ_cons, List.drop_zero]
        rw [hnew]
        simp only []
        rw [ih, lines_back, lines_back, Option.map_some, hfin _ _ rfl rfl]

/-! Every line of a step's text ends in a byte 10 and has no other. -/

theorem nums_no10 {a b : Nat} : (10 : UInt8) ∉ numsL a b := fun h => by have := nums_range h; simp at this
theorem head_ok (x : Sp) : lineOk (headL x ++ [10]) := by
  refine ⟨headL x, rfl, fun h => ?_⟩
  unfold headL at h
  rcases List.mem_append.1 h with h | h
  · exact nums_no10 h
  · rcases List.mem_cons.1 h with h | h
    · unfold wordL at h
      split at h
      · exact absurd h (by decide)
      · split at h <;> exact absurd h (by decide)
    · exact nums_no10 h
theorem line_no10 {s : ByteArray} (h : lineB s = true) : (10 : UInt8) ∉ s.data.toList.dropLast := by
  unfold lineB at h
  simp only [Bool.and_eq_true] at h
  intro hm
  have := List.all_eq_true.1 h.2 10 hm
  simp at this
theorem shown_ok {sign : List UInt8} (hs : (10 : UInt8) ∉ sign) {s : ByteArray} (h : lineB s = true) : ∀ t ∈ shownL sign s.data.toList, lineOk t := by
  intro t ht
  have h10 := line_no10 h
  unfold shownL at ht
  split at ht
  · rename_i he
    simp at ht
    subst ht
    have hl : s.data.toList = s.data.toList.dropLast ++ [10] := by
      unfold endsL at he
      have he2 : s.data.toList.getLast? = some 10 := by simpa using he
      have hne : s.data.toList ≠ [] := fun e => by rw [e] at he2; simp at he2
      have hlast : s.data.toList.getLast hne = 10 := by
        rw [List.getLast?_eq_some_getLast hne] at he2
        exact Option.some.inj he2
      have := List.dropLast_concat_getLast hne
      rw [hlast] at this
      exact this.symm
    refine ⟨sign ++ s.data.toList.dropLast, by rw [List.append_assoc, ← hl], fun hm => ?_⟩
    rcases List.mem_append.1 hm with hm | hm
    · exact hs hm
    · exact h10 hm
  · rename_i he
    simp at ht
    rcases ht with rfl | rfl
    · refine ⟨sign ++ s.data.toList, by simp, fun hm => ?_⟩
      rcases List.mem_append.1 hm with hm | hm
      · exact hs hm
      · rcases List.eq_nil_or_concat s.data.toList with e | ⟨q, c, e⟩
        · rw [e] at hm; simp at hm
        · rw [e, List.concat_eq_append] at h10 he hm
          rw [List.dropLast_concat] at h10
          rcases List.mem_append.1 hm with hm | hm
          · exact h10 hm
          · simp at hm; subst hm; simp [endsL] at he
    · exact ⟨[92, 32, 110, 111, 110, 101], rfl, by decide⟩
theorem side_ok {sign : List UInt8} (hs : (10 : UInt8) ∉ sign) {l : List ByteArray} (h : goodB l = true) : ∀ t ∈ sideL sign l, lineOk t := by
  intro t ht
  obtain ⟨s, hm, ht⟩ := List.mem_flatMap.1 ht
  exact shown_ok hs (good_lines h s hm) t ht
theorem step_lines {x : Sp} (h : stepB x = true) : ∀ t ∈ stepL x, lineOk t := by
  unfold stepB at h
  simp only [Bool.and_eq_true, decide_eq_true_eq] at h
  obtain ⟨_, _, _, _, _, _, g1, _⟩ := side_le h.1.1
  obtain ⟨_, _, _, _, _, _, g2, _⟩ := side_le h.1.2
  intro t ht
  unfold stepL at ht
  rcases List.mem_cons.1 ht with rfl | ht
  · exact head_ok x
  · rcases List.mem_append.1 ht with ht | ht
    · exact side_ok (by decide) g1 t ht
    · rcases List.mem_append.1 ht with ht | ht
      · split at ht
        · simp at ht; subst ht; exact ⟨[45, 45, 45], rfl, by decide⟩
        · simp at ht
      · exact side_ok (by decide) g2 t ht
theorem steps_lines {p : List Sp} (h : p.all stepB = true) : ∀ t ∈ stepsL p, lineOk t := by
  intro t ht
  obtain ⟨x, hm, ht⟩ := List.mem_flatMap.1 ht
  exact step_lines (List.all_eq_true.1 h x hm) t ht

/-- The lines into which a text of good steps is cut. -/
theorem cut_steps {p : List Sp} (h : p.all stepB = true) : (cutGo [] (stepsT p)).map (·.data.toList) = stepsL p := by
  unfold stepsT
  rw [cutGo_lines _ (steps_lines h), List.map_map]
  exact List.map_id'' (fun s => rfl) _

/-- Good steps with the same text are the same. -/
theorem steps_inj {p q : List Sp} (hp : p.all stepB = true) (hq : q.all stepB = true) (e : stepsT p = stepsT q) : p = q := by
  have h1 := cut_steps hp
  rw [e, cut_steps hq] at h1
  have a := parse_back p (p.length + q.length) (by omega) hp
  have b := parse_back q (p.length + q.length) (by omega) hq
  rw [← h1, b] at a
  exact (Option.some.inj a).symm

/-- The steps that a text spells. -/
def textSteps (s : List UInt8) : Option (List Sp) :=
  match parseS s.length ((cutGo [] s).map (·.data.toList)) with
  | none => none
  | some p => if s.length ≤ 3000 ∧ stepsB p = true ∧ stepsT p = s then some p else none

theorem stepsL_len (p : List Sp) : p.length ≤ (stepsT p).length := by
  induction p with
  | nil => simp
  | cons x p ih =>
    have e : stepsT (x :: p) = (headL x ++ [10]) ++ ((sideL [60, 32] x.old ++ ((if wordL x = 99 then [ruleL] else []) ++ sideL [62, 32] x.new)).flatten ++ stepsT p) := by
      unfold stepsT stepsL
      rw [List.flatMap_cons, List.flatten_append]
      simp [stepL]
    rw [e]
    simp
    omega

theorem textSteps_some {s : List UInt8} {p : List Sp} : textSteps s = some p ↔ s.length ≤ 3000 ∧ stepsB p = true ∧ stepsT p = s := by
  constructor
  · intro h
    unfold textSteps at h
    split at h
    · cases h
    · split at h
      · rename_i hc
        obtain rfl := Option.some.inj h
        exact hc
      · cases h
  · rintro ⟨h1, h2, rfl⟩
    have h3 : p.all stepB = true := by unfold stepsB at h2; simp only [Bool.and_eq_true] at h2; exact h2.1
    unfold textSteps
    rw [cut_steps h3, parse_back p _ (stepsL_len p) h3]
    exact if_pos ⟨h1, h2, rfl⟩

end Go.Proofs.YtnimaadjmejmpaaDoor.M
