/-
  Plain facts on steps and their text, the plain way: no Go, no program.
  Plain facts on lists of steps that the laws' own functions need: no Go, no program.
  Plain facts on steps made of hunks and hunks made of steps: no Go, no program.
  Plain facts: the steps of hunks that Patch takes are good, and lead to the hunks again: no Go, no program.
-/
import Derived.Test.YtkamenidgkjodaaGreatDoorNBase
import Derived.Test.YtkamenidgkjodaaGreatDoorCutM
import Derived.Test.YtkamenidgkjodaaGreatDoorHBases
set_option linter.unusedSimpArgs false
set_option linter.unusedVariables false
namespace Go.Proofs.YtkamenidgkjodaaGreatDoor.M
open Go

/-- A step: the numbers and the lines of both sides. -/
structure Sp where
  fr : Int
  to_ : Int
  old : List ByteArray
  at_ : Int
  en : Int
  new : List ByteArray

theorem Sp.ext_ {x y : Sp} (h1 : x.fr = y.fr) (h2 : x.to_ = y.to_) (h3 : x.old = y.old) (h4 : x.at_ = y.at_) (h5 : x.en = y.en) (h6 : x.new = y.new) : x = y := by
  cases x; cases y; simp at h1 h2 h3 h4 h5 h6; simp [h1, h2, h3, h4, h5, h6]

/-- Numbers that fit lines on one side. -/
def sideB (a b : Int) (l : List ByteArray) : Bool :=
  decide (0 ≤ a) && decide (a ≤ 1000) && (decide (0 ≤ b) && decide (b ≤ 1000)) && goodB l && (if l.length = 0 then decide (b = a) else decide (1 ≤ a) && decide (b - a + 1 = l.length))
def stepB (x : Sp) : Bool := sideB x.fr x.to_ x.old && sideB x.at_ x.en x.new && decide (0 < x.old.length + x.new.length)
def stepsB (p : List Sp) : Bool := p.all stepB && decide (p.length ≤ 20)

def endsL (l : List UInt8) : Bool := l.getLast? == some 10
def noneL : List UInt8 := [92, 32, 110, 111, 110, 101, 10]
/-- A line that is shown with a sign, in one line or two. -/
def shownL (sign s : List UInt8) : List (List UInt8) := if endsL s then [sign ++ s] else [sign ++ s ++ [10], noneL]
def numsL (a b : Nat) : List UInt8 := if a = b then Lib.decDigits a else Lib.decDigits a ++ 44 :: Lib.decDigits b
def wordL (x : Sp) : UInt8 := if x.old.length = 0 then 97 else if x.new.length = 0 then 100 else 99
def headL (x : Sp) : List UInt8 := numsL x.fr.toNat x.to_.toNat ++ wordL x :: numsL x.at_.toNat x.en.toNat
def ruleL : List UInt8 := [45, 45, 45, 10]
def sideL (sign : List UInt8) (l : List ByteArray) : List (List UInt8) := l.flatMap fun s => shownL sign s.data.toList
/-- The lines of a step's text. -/
def stepL (x : Sp) : List (List UInt8) := (headL x ++ [10]) :: (sideL [60, 32] x.old ++ ((if wordL x = 99 then [ruleL] else []) ++ sideL [62, 32] x.new))
def stepsL (p : List Sp) : List (List UInt8) := p.flatMap stepL
def stepsT (p : List Sp) : List UInt8 := (stepsL p).flatten

/-! Lines cut. -/

/-- A byte 10 at the end and nowhere else. -/
def lineOk (s : List UInt8) : Prop := ∃ p, s = p ++ [10] ∧ (10 : UInt8) ∉ p

theorem cutGo_line : ∀ (p cur r : List UInt8), (10 : UInt8) ∉ p → cutGo cur (p ++ 10 :: r) = ⟨(cur ++ p ++ [10]).toArray⟩ :: cutGo [] r
  | [], cur, r, _ => by rw [List.nil_append, cutGo, if_pos rfl]; simp
  | c :: p, cur, r, h => by
    have h1 : ¬ c = 10 := fun e => h (by simp [e])
    have h2 : (10 : UInt8) ∉ p := fun e => h (by simp [e])
    rw [List.cons_append, cutGo, if_neg h1, cutGo_line p (cur ++ [c]) r h2]; simp
theorem cutGo_lines : ∀ (ls : List (List UInt8)), (∀ s ∈ ls, lineOk s) → cutGo [] ls.flatten = ls.map fun s => ⟨s.toArray⟩
  | [], _ => rfl
  | s :: ls, h => by
    obtain ⟨p, e, hp⟩ := h s (by simp)
    have := cutGo_line p [] ls.flatten hp
    rw [List.flatten_cons, e, List.append_assoc, List.singleton_append, this, cutGo_lines ls (fun t ht => h t (by simp [ht]))]
    simp

/-! Shown lines taken. -/

def takeS (sign : List UInt8) : List (List UInt8) → List (List UInt8) × List (List UInt8)
  | [] => ([], [])
  | s :: [] => if s.length ≤ 2 ∨ s.take 2 ≠ sign then ([], [s]) else ([s.drop 2], [])
  | s :: t :: r =>
    if s.length ≤ 2 ∨ s.take 2 ≠ sign then ([], s :: t :: r)
    else if t = noneL then ((s.drop 2).dropLast :: (takeS sign r).1, (takeS sign r).2)
    else (s.drop 2 :: (takeS sign (t :: r)).1, (takeS sign (t :: r)).2)

theorem takeS_len (sign : List UInt8) : ∀ l : List (List UInt8), (takeS sign l).2.length ≤ l.length
  | [] => by simp [takeS]
  | s :: [] => by rw [takeS]; split <;> simp
  | s :: t :: r => by
    rw [takeS]
    split
    · simp
    · split
      · have := takeS_len sign r; simp; omega
      · have := takeS_len sign (t :: r); simp at this ⊢; omega

/-- What stands behind shown lines begins with none. -/
def stopsS (sign : List UInt8) (r : List (List UInt8)) : Prop := ∀ t r', r = t :: r' → (t.length ≤ 2 ∨ t.take 2 ≠ sign) ∧ t ≠ noneL
theorem takeS_stop {sign : List UInt8} {r : List (List UInt8)} (h : stopsS sign r) : takeS sign r = ([], r) := by
  match r, h with
  | [], _ => rfl
  | [t], h => rw [takeS, if_pos (h t [] rfl).1]
  | t :: u :: r, h => rw [takeS, if_pos (h t _ rfl).1]

theorem shown_take (sign : List UInt8) (hs : sign.length = 2) (hn : ∀ s, sign ++ s ≠ noneL) : ∀ (l : List ByteArray) (r : List (List UInt8)), (∀ s ∈ l, lineB s = true) → stopsS sign r →
    takeS sign (sideL sign l ++ r) = (l.map (·.data.toList), r)
  | [], r, _, hr => by simp [sideL, takeS_stop hr]
  | s :: l, r, hl, hr => by
    have ih := shown_take sign hs hn l r (fun t ht => hl t (by simp [ht])) hr
    have hsz := (lineB_size (hl s (by simp))).1
    have hne : 1 ≤ s.data.toList.length := by simpa using hsz
    have e : sideL sign (s :: l) = shownL sign s.data.toList ++ sideL sign l := rfl
    rw [e, List.append_assoc]
    unfold shownL
    have htk : ∀ q : List UInt8, (sign ++ q).take 2 = sign := fun q => by rw [List.take_append_of_le_length (by omega), List.take_of_length_le (by omega)]
    have hdr : ∀ q : List UInt8, (sign ++ q).drop 2 = q := fun q => by rw [← hs]; simp
    split
    · -- the line has its end
      obtain ⟨R, hR⟩ : ∃ R, R = sideL sign l ++ r := ⟨_, rfl⟩
      rw [← hR] at ih ⊢
      have hRn : ∀ t R', R = t :: R' → t ≠ noneL := by
        intro t R' e1
        rw [hR] at e1
        cases l with
        | nil => exact (hr t R' (by simpa [sideL] using e1)).2
        | cons u l' =>
          have e2 : sideL sign (u :: l') = shownL sign u.data.toList ++ sideL sign l' := rfl
          rw [e2] at e1
          unfold shownL at e1
          split at e1
          · simp at e1; rw [← e1.1]; exact hn _
          · simp at e1; rw [← e1.1, ← List.append_assoc]; rw [List.append_assoc]; exact hn _
      rw [List.singleton_append]
      cases R with
      | nil =>
        have h0 : takeS sign [] = ([], []) := rfl
        rw [h0] at ih
        obtain ⟨i1, i2⟩ := Prod.mk.inj ih
        rw [takeS, if_neg (by rw [htk]; simp; omega), hdr]
        rw [← i2, List.map_cons, ← i1]
      | cons t R' =>
        rw [takeS, if_neg (by rw [htk]; simp; omega), if_neg (hRn t R' rfl), ih, hdr]; rfl
    · rw [List.cons_append, List.cons_append, List.nil_append, takeS, if_neg (by rw [List.append_assoc, htk]; simp; omega), if_pos rfl, ih, List.append_assoc, hdr]
      simp

/-! Heads read. -/

def headAt : List UInt8 → Option (List UInt8 × UInt8 × List UInt8)
  | [] => none
  | c :: r => if c = 97 ∨ c = 99 ∨ c = 100 then some ([], c, r) else (headAt r).map fun x => (c :: x.1, x.2)
def readHead (l : List UInt8) : Option (Nat × Nat × UInt8 × Nat × Nat) :=
  match headAt l with
  | none => none
  | some (p, c, q) =>
    match pairL p, pairL q with
    | some (f, t), some (n, m) => some (f, t, c, n, m)
    | _, _ => none

theorem headAt_hit : ∀ (p : List UInt8) (c : UInt8) (q : List UInt8), (∀ d ∈ p, ¬ (d = 97 ∨ d = 99 ∨ d = 100)) → (c = 97 ∨ c = 99 ∨ c = 100) → headAt (p ++ c :: q) = some (p, c, q)
  | [], c, q, _, hc => by rw [List.nil_append, headAt, if_pos hc]
  | d :: p, c, q, hp, hc => by
    rw [List.cons_append, headAt, if_neg (hp d (by simp)), headAt_hit p c q (fun e he => hp e (by simp [he])) hc]; rfl

theorem dig_range {c : UInt8} (h : digB c = true) : 48 ≤ c.toNat ∧ c.toNat ≤ 57 := (digB_iff c).1 h
theorem nums_bytes {a b : Nat} {c : UInt8} (h : c ∈ numsL a b) : digB c = true ∨ c = 44 := by
  unfold numsL at h
  split at h
  · exact .inl (List.all_eq_true.1 (dec_all a) c h)
  · rcases List.mem_append.1 h with h | h
    · exact .inl (List.all_eq_true.1 (dec_all a) c h)
    · rcases List.mem_cons.1 h with h | h
      · exact .inr h
      · exact .inl (List.all_eq_true.1 (dec_all b) c h)
theorem nums_range {a b : Nat} {c : UInt8} (h : c ∈ numsL a b) : 44 ≤ c.toNat ∧ c.toNat ≤ 57 := by
  rcases nums_bytes h with h | rfl
  · have := dig_range h; omega
  · decide
theorem dec_comma_ (u : Nat) : (44 : UInt8) ∉ Lib.decDigits u := by
  intro h
  have := List.all_eq_true.1 (dec_all u) 44 h
  simp [digB] at this
theorem nums_back {a b : Nat} (h1 : a ≤ b) (h2 : b ≤ 1000) : pairL (numsL a b) = some (a, b) := by
  unfold numsL pairL
  split
  · rename_i e
    subst e
    rw [twoL_none (dec_comma_ _), numL_dec _ (by omega)]
    simp [Option.filter]; omega
  · rw [twoL_hit (dec_comma_ _), numL_dec _ (by omega), numL_dec _ (by omega)]
    simp [Option.filter]; omega
theorem nums_head {a b : Nat} : ∃ c r, numsL a b = c :: r ∧ digB c = true := by
  have h : ∀ r', ∃ c r, Lib.decDigits a ++ r' = c :: r ∧ digB c = true := by
    intro r'
    cases e : Lib.decDigits a with
    | nil => exact absurd e (dec_ne a)
    | cons c r => exact ⟨c, r ++ r', rfl, List.all_eq_true.1 (dec_all a) c (by rw [e]; simp)⟩
  unfold numsL
  split
  · obtain ⟨c, r, e, hc⟩ := h []
    exact ⟨c, r, by simpa using e, hc⟩
  · exact h _

theorem side_le {a b : Int} {l : List ByteArray} (h : sideB a b l = true) : ∃ A B : Nat, a = (A : Int) ∧ b = (B : Int) ∧ A ≤ B ∧ B ≤ 1000 ∧ goodB l = true ∧ (l.length = 0 → A = B) ∧ (l.length ≠ 0 → 1 ≤ A ∧ B + 1 = A + l.length) := by
  unfold sideB at h
  simp only [Bool.and_eq_true, decide_eq_true_eq] at h
  obtain ⟨⟨⟨⟨h1, h2⟩, h3, h4⟩, h5⟩, h6⟩ := h
  refine ⟨a.toNat, b.toNat, by omega, by omega, ?_, by omega, h5, ?_, ?_⟩
  · split at h6
    · simp at h6; omega
    · rename_i hne; simp at h6; omega
  · intro e; rw [if_pos e] at h6; simp at h6; omega
  · intro e; rw [if_neg e] at h6; simp at h6; omega

theorem head_back {x : Sp} (h : stepB x = true) : readHead (headL x) = some (x.fr.toNat, x.to_.toNat, wordL x, x.at_.toNat, x.en.toNat) := by
  unfold stepB at h
  simp only [Bool.and_eq_true] at h
  obtain ⟨A, B, e1, e2, h1, h2, _⟩ := side_le h.1.1
  obtain ⟨C, D, e3, e4, h3, h4, _⟩ := side_le h.1.2
  rw [e1, e2, e3, e4]
  simp only [Int.toNat_natCast]
  have hw : wordL x = 97 ∨ wordL x = 99 ∨ wordL x = 100 := by
    unfold wordL
    split
    · exact .inl rfl
    · split
      · exact .inr (.inr rfl)
      · exact .inr (.inl rfl)
  unfold readHead headL
  rw [e1, e2, e3, e4]
  simp only [Int.toNat_natCast]
  rw [headAt_hit _ _ _ (fun d hd e => by have := nums_range hd; rcases e with rfl | rfl | rfl <;> simp at this) hw]
  simp only []
  rw [nums_back h1 h2, nums_back h3 h4]

/-! Steps read. -/

theorem sub_lt {α : Type} {a b : List α} {h : α} (e : a.length ≤ b.length) : a.length < (h :: b).length := by simp; omega

/-- The steps that lines spell; none where a head is no head. -/
def parseS : Nat → List (List UInt8) → Option (List Sp)
  | _, [] => some []
  | 0, _ :: _ => none
  | k + 1, h :: l =>
    match readHead (if endsL h then h.dropLast else h) with
    | none => none
    | some (f, t, c, n, m) =>
      let o := if c ≠ 97 then takeS [60, 32] l else ([], l)
      let l2 := if c = 99 then o.2.drop 1 else o.2
      let q := if c ≠ 100 then takeS [62, 32] l2 else ([], l2)
      (parseS k q.2).map fun r => ⟨f, t, o.1.map (fun s => ⟨s.toArray⟩), n, m, q.1.map (fun s => ⟨s.toArray⟩)⟩ :: r

theorem lines_back (l : List ByteArray) : (l.map (·.data.toList)).map (fun s => (⟨s.toArray⟩ : ByteArray)) = l := by
  induction l with
  | nil => rfl
  | cons s l ih => rw [List.map_cons, List.map_cons, ih]

theorem head_line {x : Sp} : ∃ c r, headL x ++ [10] = c :: r ∧ digB c = true := by
  obtain ⟨c, r, e, hc⟩ := nums_head (a := x.fr.toNat) (b := x.to_.toNat)
  unfold headL
  rw [e]
  exact ⟨c, _, rfl, hc⟩

theorem stop_of_digit {a b c : UInt8} {r : List UInt8} {l : List (List UInt8)} (hc : digB c = true) (ha : a.toNat < 48 ∨ 57 < a.toNat) : stopsS [a, b] ((c :: r) :: l) := by
  intro t r' e
  injection e with e1 e2
  subst e1
  have hd := dig_range hc
  have hca : c ≠ a := fun e => by subst e; omega
  refine ⟨.inr ?_, ?_⟩
  · intro e
    cases r with
    | nil => simp at e
    | cons d r => simp at e; exact hca e.1
  · intro e
    unfold noneL at e
    injection e with e1 e2
    subst e1
    simp at hd

theorem stop_steps (a b : UInt8) (ha : a.toNat < 48 ∨ 57 < a.toNat) (p : List Sp) : stopsS [a, b] (stepsL p) := by
  cases p with
  | nil => intro t r' e; simp [stepsL] at e
  | cons x p =>
    obtain ⟨c, r, e, hc⟩ := head_line (x := x)
    have e2 : stepsL (x :: p) = (headL x ++ [10]) :: (sideL [60, 32] x.old ++ ((if wordL x = 99 then [ruleL] else []) ++ sideL [62, 32] x.new) ++ stepsL p) := rfl
    rw [e2, e]
    exact stop_of_digit hc ha

theorem good_lines {l : List ByteArray} (h : goodB l = true) : ∀ s ∈ l, lineB s = true := by
  intro s hs
  obtain ⟨j, hj⟩ := List.mem_iff_getElem?.1 hs
  exact (goodB_at h hj).1

/-- What good steps spell is read as they are. -/
theorem parse_back : ∀ (p : List Sp) (k : Nat), p.length ≤ k → p.all stepB = true → parseS k (stepsL p) = some p
  | [], k, _, _ => by cases k <;> rfl
  | x :: p, 0, h, _ => by simp at h
  | x :: p, k + 1, hk, ha => by
    rw [List.all_cons, Bool.and_eq_true] at ha
    have ih := parse_back p k (by simpa using hk) ha.2
    have hb := head_back ha.1
    have hx := ha.1
    unfold stepB at hx
    simp only [Bool.and_eq_true, decide_eq_true_eq] at hx
    obtain ⟨⟨s1, s2⟩, hpos⟩ := hx
    obtain ⟨A, B, e1, e2, h1, h2, g1, z1, n1⟩ := side_le s1
    obtain ⟨C, D, e3, e4, h3, h4, g2, z2, n2⟩ := side_le s2
    have eL : stepsL (x :: p) = (headL x ++ [10]) :: (sideL [60, 32] x.old ++ ((if wordL x = 99 then [ruleL] else []) ++ sideL [62, 32] x.new) ++ stepsL p) := rfl
    have hends : endsL (headL x ++ [10]) = true := by simp [endsL]
    have hnew : takeS [62, 32] (sideL [62, 32] x.new ++ stepsL p) = (x.new.map (·.data.toList), stepsL p) :=
      shown_take [62, 32] rfl (fun s e => by simp [noneL] at e) x.new (stepsL p) (good_lines g2) (stop_steps 62 32 (.inr (by decide)) p)
    have hfin : ∀ (o n : List ByteArray), o = x.old → n = x.new → (⟨(x.fr.toNat : Nat), (x.to_.toNat : Nat), o, (x.at_.toNat : Nat), (x.en.toNat : Nat), n⟩ : Sp) = x := by
      intro o n ho hn
      apply Sp.ext_ <;> simp only [] <;> first | assumption | omega
    rw [eL, parseS, if_pos hends, List.dropLast_concat, hb]
    simp only []
    by_cases w1 : x.old.length = 0
    · have hw : wordL x = 97 := if_pos w1
      have ho : x.old = [] := List.eq_nil_of_length_eq_zero w1
      have hs : sideL [60, 32] x.old = [] := by rw [ho]; rfl
      rw [hw, hs]
      simp only [show ¬ ((97 : UInt8) = 99) by decide, show ((97 : UInt8) ≠ 97) = False by simp, show ((97 : UInt8) ≠ 100) = True by simp, if_false, if_true, List.nil_append]
      rw [hnew]
      simp only []
      rw [ih, lines_back, Option.map_some, hfin _ _ (by rw [ho]; rfl) rfl]
    · by_cases w2 : x.new.length = 0
      · have hw : wordL x = 100 := by unfold wordL; rw [if_neg w1, if_pos w2]
        have hn : x.new = [] := List.eq_nil_of_length_eq_zero w2
        have hs : sideL [62, 32] x.new = [] := by rw [hn]; rfl
        have hold : takeS [60, 32] (sideL [60, 32] x.old ++ stepsL p) = (x.old.map (·.data.toList), stepsL p) :=
          shown_take [60, 32] rfl (fun s e => by simp [noneL] at e) x.old (stepsL p) (good_lines g1) (stop_steps 60 32 (.inr (by decide)) p)
        rw [hw, hs]
        simp only [show ¬ ((100 : UInt8) = 99) by decide, show ((100 : UInt8) ≠ 97) = True by simp, show ((100 : UInt8) ≠ 100) = False by simp, if_false, if_true, List.append_nil]
        rw [hold]
        simp only []
        rw [ih, lines_back, Option.map_some, hfin _ _ rfl (by rw [hn]; rfl)]
      · have hw : wordL x = 99 := by unfold wordL; rw [if_neg w1, if_neg w2]
        have hstop : stopsS [60, 32] (ruleL :: (sideL [62, 32] x.new ++ stepsL p)) := by
          intro t r' e
          injection e with e1 e2
          subst e1
          exact ⟨.inr (by decide), by decide⟩
        have hold : takeS [60, 32] (sideL [60, 32] x.old ++ (ruleL :: (sideL [62, 32] x.new ++ stepsL p))) = (x.old.map (·.data.toList), ruleL :: (sideL [62, 32] x.new ++ stepsL p)) :=
          shown_take [60, 32] rfl (fun s e => by simp [noneL] at e) x.old _ (good_lines g1) hstop
        rw [hw]
        simp only [show ((99 : UInt8) ≠ 97) = True by simp, show ((99 : UInt8) ≠ 100) = True by simp, if_true, List.append_assoc, List.singleton_append, List.cons_append, List.nil_append]
        rw [hold]
        simp only [List.drop_succ_cons, List.drop_zero]
        rw [hnew]
        simp only []
        rw [ih, lines_back, lines_back, Option.map_some, hfin _ _ rfl rfl]

/-! Every line of a step's text ends in a byte 10 and has no other. -/

theorem nums_no10 {a b : Nat} : (10 : UInt8) ∉ numsL a b := fun h => by have := nums_range h; simp at this
theorem head_ok (x : Sp) : lineOk (headL x ++ [10]) := by
  refine ⟨headL x, rfl, fun h => ?_⟩
  unfold headL at h
  rcases List.mem_append.1 h with h | h
  · exact nums_no10 h
  · rcases List.mem_cons.1 h with h | h
    · unfold wordL at h
      split at h
      · exact absurd h (by decide)
      · split at h <;> exact absurd h (by decide)
    · exact nums_no10 h
theorem line_no10 {s : ByteArray} (h : lineB s = true) : (10 : UInt8) ∉ s.data.toList.dropLast := by
  unfold lineB at h
  simp only [Bool.and_eq_true] at h
  intro hm
  have := List.all_eq_true.1 h.2 10 hm
  simp at this
theorem shown_ok {sign : List UInt8} (hs : (10 : UInt8) ∉ sign) {s : ByteArray} (h : lineB s = true) : ∀ t ∈ shownL sign s.data.toList, lineOk t := by
  intro t ht
  have h10 := line_no10 h
  unfold shownL at ht
  split at ht
  · rename_i he
    simp at ht
    subst ht
    have hl : s.data.toList = s.data.toList.dropLast ++ [10] := by
      unfold endsL at he
      have he2 : s.data.toList.getLast? = some 10 := by simpa using he
      have hne : s.data.toList ≠ [] := fun e => by rw [e] at he2; simp at he2
      have hlast : s.data.toList.getLast hne = 10 := by
        rw [List.getLast?_eq_some_getLast hne] at he2
        exact Option.some.inj he2
      have := List.dropLast_concat_getLast hne
      rw [hlast] at this
      exact this.symm
    refine ⟨sign ++ s.data.toList.dropLast, by rw [List.append_assoc, ← hl], fun hm => ?_⟩
    rcases List.mem_append.1 hm with hm | hm
    · exact hs hm
    · exact h10 hm
  · rename_i he
    simp at ht
    rcases ht with rfl | rfl
    · refine ⟨sign ++ s.data.toList, by simp, fun hm => ?_⟩
      rcases List.mem_append.1 hm with hm | hm
      · exact hs hm
      · rcases List.eq_nil_or_concat s.data.toList with e | ⟨q, c, e⟩
        · rw [e] at hm; simp at hm
        · rw [e, List.concat_eq_append] at h10 he hm
          rw [List.dropLast_concat] at h10
          rcases List.mem_append.1 hm with hm | hm
          · exact h10 hm
          · simp at hm; subst hm; simp [endsL] at he
    · exact ⟨[92, 32, 110, 111, 110, 101], rfl, by decide⟩
theorem side_ok {sign : List UInt8} (hs : (10 : UInt8) ∉ sign) {l : List ByteArray} (h : goodB l = true) : ∀ t ∈ sideL sign l, lineOk t := by
  intro t ht
  obtain ⟨s, hm, ht⟩ := List.mem_flatMap.1 ht
  exact shown_ok hs (good_lines h s hm) t ht
theorem step_lines {x : Sp} (h : stepB x = true) : ∀ t ∈ stepL x, lineOk t := by
  unfold stepB at h
  simp only [Bool.and_eq_true, decide_eq_true_eq] at h
  obtain ⟨_, _, _, _, _, _, g1, _⟩ := side_le h.1.1
  obtain ⟨_, _, _, _, _, _, g2, _⟩ := side_le h.1.2
  intro t ht
  unfold stepL at ht
  rcases List.mem_cons.1 ht with rfl | ht
  · exact head_ok x
  · rcases List.mem_append.1 ht with ht | ht
    · exact side_ok (by decide) g1 t ht
    · rcases List.mem_append.1 ht with ht | ht
      · split at ht
        · simp at ht; subst ht; exact ⟨[45, 45, 45], rfl, by decide⟩
        · simp at ht
      · exact side_ok (by decide) g2 t ht
theorem steps_lines {p : List Sp} (h : p.all stepB = true) : ∀ t ∈ stepsL p, lineOk t := by
  intro t ht
  obtain ⟨x, hm, ht⟩ := List.mem_flatMap.1 ht
  exact step_lines (List.all_eq_true.1 h x hm) t ht

/-- The lines into which a text of good steps is cut. -/
theorem cut_steps {p : List Sp} (h : p.all stepB = true) : (cutGo [] (stepsT p)).map (·.data.toList) = stepsL p := by
  unfold stepsT
  rw [cutGo_lines _ (steps_lines h), List.map_map]
  exact List.map_id'' (fun s => rfl) _

/-- Good steps with the same text are the same. -/
theorem steps_inj {p q : List Sp} (hp : p.all stepB = true) (hq : q.all stepB = true) (e : stepsT p = stepsT q) : p = q := by
  have h1 := cut_steps hp
  rw [e, cut_steps hq] at h1
  have a := parse_back p (p.length + q.length) (by omega) hp
  have b := parse_back q (p.length + q.length) (by omega) hq
  rw [← h1, b] at a
  exact (Option.some.inj a).symm

/-- The steps that a text spells. -/
def textSteps (s : List UInt8) : Option (List Sp) :=
  match parseS s.length ((cutGo [] s).map (·.data.toList)) with
  | none => none
  | some p => if s.length ≤ 3000 ∧ stepsB p = true ∧ stepsT p = s then some p else none

theorem stepsL_len (p : List Sp) : p.length ≤ (stepsT p).length := by
  induction p with
  | nil => simp
  | cons x p ih =>
    have e : stepsT (x :: p) = (headL x ++ [10]) ++ ((sideL [60, 32] x.old ++ ((if wordL x = 99 then [ruleL] else []) ++ sideL [62, 32] x.new)).flatten ++ stepsT p) := by
      unfold stepsT stepsL
      rw [List.flatMap_cons, List.flatten_append]
      simp [stepL]
    rw [e]
    simp
    omega

theorem textSteps_some {s : List UInt8} {p : List Sp} : textSteps s = some p ↔ s.length ≤ 3000 ∧ stepsB p = true ∧ stepsT p = s := by
  constructor
  · intro h
    unfold textSteps at h
    split at h
    · cases h
    · split at h
      · rename_i hc
        obtain rfl := Option.some.inj h
        exact hc
      · cases h
  · rintro ⟨h1, h2, rfl⟩
    have h3 : p.all stepB = true := by unfold stepsB at h2; simp only [Bool.and_eq_true] at h2; exact h2.1
    unfold textSteps
    rw [cut_steps h3, parse_back p _ (stepsL_len p) h3]
    exact if_pos ⟨h1, h2, rfl⟩

end Go.Proofs.YtkamenidgkjodaaGreatDoor.M

namespace Go.Proofs.YtkamenidgkjodaaGreatDoor.M
open Go

def eqP (x y : Sp) : Bool := decide (x.fr = y.fr) && decide (x.to_ = y.to_) && eqT x.old y.old && decide (x.at_ = y.at_) && decide (x.en = y.en) && eqT x.new y.new
theorem eqP_iff (x y : Sp) : eqP x y = true ↔ x = y := by
  simp only [eqP, Bool.and_eq_true, decide_eq_true_eq, eqT]
  exact ⟨fun ⟨⟨⟨⟨⟨h1, h2⟩, h3⟩, h4⟩, h5⟩, h6⟩ => Sp.ext_ h1 h2 h3 h4 h5 h6, fun h => by subst h; exact ⟨⟨⟨⟨⟨rfl, rfl⟩, rfl⟩, rfl⟩, rfl⟩, rfl⟩⟩
def eqPS : List Sp → List Sp → Bool
  | [], [] => true
  | x :: l, y :: r => eqP x y && eqPS l r
  | _, _ => false
theorem eqPS_iff : ∀ (l r : List Sp), eqPS l r = true ↔ l = r
  | [], [] => by simp [eqPS]
  | [], y :: r => by simp [eqPS]
  | x :: l, [] => by simp [eqPS]
  | x :: l, y :: r => by simp [eqPS, eqP_iff, eqPS_iff l r]
theorem eqPS_refl (l : List Sp) : eqPS l l = true := (eqPS_iff l l).2 rfl
theorem eqPS_len {l r : List Sp} (h : l.length ≠ r.length) : eqPS l r = false := by
  rw [Bool.eq_false_iff]; intro e; exact h (by rw [(eqPS_iff l r).1 e])
theorem eqPS_at {l r : List Sp} {k : Nat} {s t : Sp} (hs : l[k]? = some s) (ht : r[k]? = some t) (h : eqP s t = false) : eqPS l r = false := by
  rw [Bool.eq_false_iff]; intro e; rw [(eqPS_iff l r).1 e, ht] at hs; injection hs with hs; subst hs; rw [(eqP_iff t t).2 rfl] at h; cases h
theorem eqPS_all {l r : List Sp} (h : ∀ (j : Nat) s t, l[j]? = some s → r[j]? = some t → eqP s t = true) (hl : l.length = r.length) : eqPS l r = true := by
  rw [eqPS_iff]
  apply List.ext_getElem?
  intro j
  by_cases hj : j < l.length
  · have h1 := List.getElem?_eq_getElem hj
    have h2 := List.getElem?_eq_getElem (show j < r.length by omega)
    rw [h1, h2, (eqP_iff _ _).1 (h j _ _ h1 h2)]
  · rw [List.getElem?_eq_none (by omega), List.getElem?_eq_none (by omega)]
theorem eqP_step {l r : List Sp} {k : Nat} {s t : Sp} (H : ∀ (j : Nat) s t, j < k → l[j]? = some s → r[j]? = some t → eqP s t = true) (hs : l[k]? = some s) (ht : r[k]? = some t) (h : eqP s t = true) :
    ∀ (j : Nat) s t, j < k + 1 → l[j]? = some s → r[j]? = some t → eqP s t = true := by
  intro j s' t' hj hs' ht'
  by_cases e : j = k
  · subst e; rw [hs] at hs'; rw [ht] at ht'; injection hs' with hs'; injection ht' with ht'; rw [← hs', ← ht', h]
  · exact H j s' t' (by omega) hs' ht'

/-- All lines and bytes of a step, of some steps. -/
def bulk (x : Sp) : Nat := x.old.length + total x.old + (x.new.length + total x.new)
def totalP : List Sp → Nat
  | [] => 0
  | x :: l => bulk x + totalP l
theorem totalP_append (a b : List Sp) : totalP (a ++ b) = totalP a + totalP b := by
  induction a with
  | nil => simp [totalP]
  | cons s a ih => simp [totalP, ih]; omega
theorem totalP_take_succ {l : List Sp} {k : Nat} {x : Sp} (e : l[k]? = some x) : totalP (l.take (k + 1)) = totalP (l.take k) + bulk x := by
  rw [List.take_add_one, e, totalP_append]; simp [totalP]
theorem totalP_take_le (l : List Sp) (k : Nat) : totalP (l.take k) ≤ totalP l := by
  have h := totalP_append (l.take k) (l.drop k)
  rw [List.take_append_drop] at h
  omega
theorem totalP_mem {l : List Sp} {x : Sp} (e : x ∈ l) : bulk x ≤ totalP l := by
  obtain ⟨k, hk⟩ := List.mem_iff_getElem?.1 e
  have h1 := totalP_take_succ hk
  have h2 := totalP_take_le l (k + 1)
  omega
def szPS (l : List Sp) (left : Int) : Int := if left < l.length + totalP l then -1 else left - l.length - totalP l
def szP (x : Sp) (left : Int) : Int := if left < bulk x then -1 else left - bulk x

def blankP : Sp := ⟨0, 0, [], 0, 0, []⟩
def fillP (l : List Sp) (k : Nat) : List Sp := l.take k ++ List.replicate (l.length - k) blankP
theorem fillP_len (l : List Sp) {k : Nat} (h : k ≤ l.length) : (fillP l k).length = l.length := by simp [fillP]; omega
theorem fillP_zero (l : List Sp) : fillP l 0 = List.replicate l.length blankP := by simp [fillP]
theorem fillP_all (l : List Sp) {k : Nat} (h : l.length ≤ k) : fillP l k = l := by
  simp [fillP, List.take_of_length_le h, show l.length - k = 0 from by omega]
theorem fillP_set {l : List Sp} {k : Nat} {s : Sp} (h : l[k]? = some s) : (fillP l k).set k s = fillP l (k + 1) := by
  have hk : k < l.length := (List.getElem?_eq_some_iff.1 h).1
  unfold fillP
  rw [List.set_append, if_neg (by simp; omega), List.take_add_one, h]
  simp only [List.length_take, Nat.min_eq_left (Nat.le_of_lt hk), Nat.sub_self, Option.toList_some, List.append_assoc, List.singleton_append]
  rw [show l.length - k = (l.length - (k + 1)) + 1 from by omega, List.replicate_succ, List.set_cons_zero]

/-- Steps that are marked, from a number on, and the number behind. -/
def markSp (k : Nat) (x : Sp) : Sp := ⟨k, (k : Int) + 1, marks (k + 2) x.old.length, ((k + 2 + x.old.length : Nat) : Int), ((k + 2 + x.old.length : Nat) : Int) + 1, marks (k + 2 + x.old.length + 2) x.new.length⟩
def nextSp (k : Nat) (x : Sp) : Nat := k + 2 + x.old.length + 2 + x.new.length
def marksSt (k : Nat) : List Sp → List Sp
  | [] => []
  | x :: l => markSp k x :: marksSt (nextSp k x) l
def endS (k : Nat) : List Sp → Nat
  | [] => k
  | x :: l => endS (nextSp k x) l
theorem marksSt_snoc (x : Sp) : ∀ (l : List Sp) (k : Nat), marksSt k (l ++ [x]) = marksSt k l ++ [markSp (endS k l) x]
  | [], k => rfl
  | y :: l, k => by simp [marksSt, endS, marksSt_snoc x l]
theorem endS_snoc (x : Sp) : ∀ (l : List Sp) (k : Nat), endS k (l ++ [x]) = nextSp (endS k l) x
  | [], k => rfl
  | y :: l, k => by simp [endS, endS_snoc x l]
theorem marksSt_len : ∀ (l : List Sp) (k : Nat), (marksSt k l).length = l.length
  | [], k => rfl
  | y :: l, k => by simp [marksSt, marksSt_len l]
theorem endS_le : ∀ (l : List Sp) (k : Nat), endS k l ≤ k + 4 * l.length + totalP l
  | [], k => by simp [endS]
  | y :: l, k => by have := endS_le l (nextSp k y); simp only [endS, List.length_cons, totalP, nextSp, bulk] at *; omega
theorem endS_take_le (l : List Sp) (i k : Nat) : endS k (l.take i) ≤ k + 4 * l.length + totalP l := by
  have h1 := endS_le (l.take i) k
  have h2 := totalP_take_le l i
  have h3 : (l.take i).length ≤ l.length := by simp; omega
  omega
def mkToP (l : List Sp) (k i : Nat) : List Sp := marksSt k (l.take i) ++ l.drop i
theorem mkToP_zero (l : List Sp) (k : Nat) : mkToP l k 0 = l := by simp [mkToP, marksSt]
theorem mkToP_all (l : List Sp) (k : Nat) {i : Nat} (h : l.length ≤ i) : mkToP l k i = marksSt k l := by simp [mkToP, List.take_of_length_le h, List.drop_eq_nil_of_le h]
theorem mkToP_len (l : List Sp) (k i : Nat) : (mkToP l k i).length = l.length := by simp [mkToP, marksSt_len]; omega
theorem mkToP_get {l : List Sp} (k : Nat) {i : Nat} {x : Sp} (h : l[i]? = some x) : (mkToP l k i)[i]? = some x := by
  have hi : i < l.length := (List.getElem?_eq_some_iff.1 h).1
  unfold mkToP
  rw [List.getElem?_append_right (by rw [marksSt_len]; simp; omega), marksSt_len, List.getElem?_drop, List.length_take, Nat.min_eq_left (by omega), Nat.sub_self, Nat.add_zero, h]
theorem mkToP_set {l : List Sp} (k : Nat) {i : Nat} {x : Sp} (h : l[i]? = some x) : (mkToP l k i).set i (markSp (endS k (l.take i)) x) = mkToP l k (i + 1) := by
  have hi : i < l.length := (List.getElem?_eq_some_iff.1 h).1
  unfold mkToP
  rw [take_snoc h, marksSt_snoc, List.set_append, if_neg (by rw [marksSt_len]; simp; omega), marksSt_len, List.length_take, Nat.min_eq_left (by omega), Nat.sub_self, List.drop_eq_getElem_cons hi, List.set_cons_zero, List.append_assoc]
  rfl
theorem marksSt_get {l : List Sp} (k : Nat) {i : Nat} {x : Sp} (h : l[i]? = some x) : (marksSt k l)[i]? = some (markSp (endS k (l.take i)) x) := by
  have h1 : l = l.take i ++ x :: l.drop (i + 1) := by
    have hi : i < l.length := (List.getElem?_eq_some_iff.1 h).1
    rw [List.getElem?_eq_getElem hi] at h
    injection h with h
    rw [← h, ← List.drop_eq_getElem_cons hi, List.take_append_drop]
  have h2 : ∀ (a b : List Sp) (k : Nat), marksSt k (a ++ b) = marksSt k a ++ marksSt (endS k a) b := by
    intro a
    induction a with
    | nil => intro b k; rfl
    | cons y a ih => intro b k; simp [marksSt, endS, ih]
  have hl : (l.take i).length = i := by have := (List.getElem?_eq_some_iff.1 h).1; simp; omega
  have h3 : (marksSt k (l.take i ++ x :: l.drop (i + 1)))[i]? = some (markSp (endS k (l.take i)) x) := by
    rw [h2, List.getElem?_append_right (by rw [marksSt_len, hl]; exact Nat.le_refl _), marksSt_len, hl, Nat.sub_self]
    rfl
  rw [← h1] at h3
  exact h3

end Go.Proofs.YtkamenidgkjodaaGreatDoor.M

namespace Go.Proofs.YtkamenidgkjodaaGreatDoor.M
open Go

/-- The number of the first of n lines at a place; of none that of the one behind which they are. -/
def numI (a : Int) (n : Nat) : Int := if n = 0 then a else a + 1
/-- The step of one hunk. -/
def stepOf (l : List ByteArray) (more : Int) (x : Hk) : Sp := ⟨numI x.at_ x.gone.toNat, x.at_ + x.gone, oldOf l x, numI (x.at_ + more) x.new.length, x.at_ + more + x.new.length, x.new⟩
def normFrom (l : List ByteArray) : Int → List Hk → List Sp
  | _, [] => []
  | more, x :: hs => stepOf l more x :: normFrom l (more + (x.new.length - x.gone)) hs
def normH (l : List ByteArray) (hs : List Hk) : List Sp := normFrom l 0 hs
def normOf (l : List ByteArray) (hs : List Hk) : List Sp × Bool := if patchOk l hs = true then (normH l hs, true) else ([], false)
theorem norm_step {l : List ByteArray} {hs : List Hk} {more : Int} {j : Nat} {x : Hk} (h : hs[j]? = some x) : normFrom l more (hs.drop j) = stepOf l more x :: normFrom l (more + (x.new.length - x.gone)) (hs.drop (j + 1)) := by
  rw [drop_at h, normFrom]
theorem norm_end {l : List ByteArray} {hs : List Hk} {more : Int} {j : Nat} (h : hs.length ≤ j) : normFrom l more (hs.drop j) = [] := by
  rw [List.drop_eq_nil_of_le h]; rfl
theorem norm_len (l : List ByteArray) : ∀ (hs : List Hk) (more : Int), (normFrom l more hs).length = hs.length
  | [], _ => rfl
  | x :: hs, more => by simp [normFrom, norm_len l hs]
theorem norm_mem {l : List ByteArray} {y : Sp} : ∀ {hs : List Hk} {more : Int}, y ∈ normFrom l more hs → ∃ x ∈ hs, ∃ m, y = stepOf l m x
  | [], _, h => by simp [normFrom] at h
  | x :: hs, more, h => by
    rcases List.mem_cons.1 h with rfl | h
    · exact ⟨x, by simp, _, rfl⟩
    · obtain ⟨z, hz, m, e⟩ := norm_mem h
      exact ⟨z, by simp [hz], m, e⟩
theorem totalP_le {l : List Sp} {b : Nat} (h : ∀ x ∈ l, bulk x ≤ b) : totalP l ≤ l.length * b := by
  induction l with
  | nil => simp [totalP]
  | cons s l ih =>
    have h1 := h s (by simp)
    have h2 := ih (fun t ht => h t (by simp [ht]))
    simp only [totalP, List.length_cons, Nat.add_mul, Nat.one_mul]
    omega
theorem normOf_len (l : List ByteArray) (hs : List Hk) : (normOf l hs).1.length + totalP (normOf l hs).1 ≤ 60000 := by
  unfold normOf
  split
  · next h =>
    obtain ⟨h1, h2, h3⟩ := patchOk_parts h
    have h4 : (normH l hs).length ≤ 20 := by unfold normH; rw [norm_len]; exact (goodH_parts h2).2.2.1
    have h5 : totalP (normH l hs) ≤ (normH l hs).length * 2480 := totalP_le (fun y hy => by
      obtain ⟨x, hx, m, rfl⟩ := norm_mem hy
      have q1 := lines_total (linesB_seg (goodB_lines h1) x.at_.toNat (x.at_ + x.gone).toNat)
      have q2 := lines_total (hunkB_parts (rise_mem (goodH_parts h2).2.2.2 hx)).2.2.2.2
      unfold bulk stepOf oldOf
      dsimp only
      omega)
    have h6 : (normH l hs).length * 2480 ≤ 20 * 2480 := Nat.mul_le_mul_right _ h4
    dsimp only
    omega
  · simp [totalP]
theorem normOf_ok (l : List ByteArray) (hs : List Hk) : (normOf l hs).2 = patchOk l hs := by
  unfold normOf
  split
  · next h => rw [h]
  · next h => simp at h; rw [h]

/-- The text of steps, and whether there is one. -/
def textP (p : List Sp) : List UInt8 × Bool := if stepsB p = true ∧ (stepsT p).length ≤ 3000 then (stepsT p, true) else ([], false)
theorem textP_len (p : List Sp) : (textP p).1.length ≤ 3000 := by unfold textP; split <;> simp_all

/-! Hunks made of steps. -/

def baseI (a : Int) (l : List ByteArray) : Int := if l.length = 0 then a else a - 1
def hunkP (x : Sp) : Hk := ⟨baseI x.fr x.old, x.old.length, x.new⟩
def otherB (l : List ByteArray) : Int → List Sp → Bool
  | _, [] => false
  | more, x :: p => !eqT (oldOf l (hunkP x)) x.old || decide (baseI x.at_ x.new ≠ (hunkP x).at_ + more) || otherB l (more + (x.new.length - x.old.length)) p
def hunksOk (l : List ByteArray) (p : List Sp) : Bool := goodB l && stepsB p
/-- StepsHunks' answers. -/
def hunksC (l : List ByteArray) (p : List Sp) : List Hk × Int :=
  if goodH l.length (p.map hunkP) = true then (if otherB l 0 p = true then ([], 2) else (p.map hunkP, 0)) else ([], 3)
def hunksOf (l : List ByteArray) (p : List Sp) : List Hk × Int × Bool := if hunksOk l p = true then ((hunksC l p).1, (hunksC l p).2, true) else ([], 0, false)
theorem other_step {l : List ByteArray} {p : List Sp} {more : Int} {j : Nat} {x : Sp} (h : p[j]? = some x) : otherB l more (p.drop j) = (!eqT (oldOf l (hunkP x)) x.old || decide (baseI x.at_ x.new ≠ (hunkP x).at_ + more) || otherB l (more + (x.new.length - x.old.length)) (p.drop (j + 1))) := by
  rw [drop_at h, otherB]
theorem other_end {l : List ByteArray} {p : List Sp} {more : Int} {j : Nat} (h : p.length ≤ j) : otherB l more (p.drop j) = false := by
  rw [List.drop_eq_nil_of_le h]; rfl

theorem stepB_parts {x : Sp} (h : stepB x = true) : sideB x.fr x.to_ x.old = true ∧ sideB x.at_ x.en x.new = true ∧ 0 < x.old.length + x.new.length := by
  unfold stepB at h
  simp only [Bool.and_eq_true, decide_eq_true_eq] at h
  exact ⟨h.1.1, h.1.2, h.2⟩
/-- A good step ends where its To says. -/
theorem hunkP_end {x : Sp} (h : stepB x = true) : (hunkP x).at_ + (hunkP x).gone = x.to_ ∧ 0 ≤ (hunkP x).at_ ∧ x.to_ ≤ 1000 := by
  obtain ⟨h1, _, _⟩ := stepB_parts h
  obtain ⟨A, B, e1, e2, q1, q2, _, z, nz⟩ := side_le h1
  unfold hunkP baseI
  dsimp only
  by_cases e : x.old.length = 0
  · rw [if_pos e]; have := z e; omega
  · rw [if_neg e]; have := nz e; omega
theorem rise_far {many : Int} {p : List Sp} (hp : p.all stepB = true) {x : Sp} (hx : x ∈ p) (h : many < x.to_) : goodH many (p.map hunkP) = false := by
  rw [Bool.eq_false_iff]
  intro hg
  have h1 := goodH_mem hg (List.mem_map_of_mem hx)
  have h2 := (hunkP_end (List.all_eq_true.1 hp x hx)).1
  omega
/-- Where a hunk begins behind those ahead of it. -/
theorem place_ahead {many e k : Int} : ∀ {hs : List Hk} {more : Int}, riseB many e hs = true → (∀ x ∈ hs, x.at_ + x.gone ≤ k) → placeFrom k more hs = some (k + (hs.foldl (fun (m : Int) (x : Hk) => m + ((x.new.length : Int) - x.gone)) more))
  | [], more, _, _ => rfl
  | x :: hs, more, hr, h => by
    simp only [riseB, Bool.and_eq_true] at hr
    rw [placeFrom, if_pos (h x (by simp)), place_ahead hr.2 (fun y hy => h y (by simp [hy]))]
    rfl
theorem rise_take {many : Int} : ∀ {hs : List Hk} {e : Int} (i : Nat), riseB many e hs = true → riseB many e (hs.take i) = true
  | [], e, i, h => by simpa using h
  | x :: hs, e, 0, h => rfl
  | x :: hs, e, i + 1, h => by
    simp only [riseB, Bool.and_eq_true, List.take_succ_cons] at h ⊢
    exact ⟨h.1, rise_take i h.2⟩
theorem goodH_take {many : Int} {hs : List Hk} (i : Nat) (h : goodH many hs = true) : goodH many (hs.take i) = true := by
  obtain ⟨h1, h2, h3, h4⟩ := goodH_parts h
  simp only [goodH, Bool.and_eq_true, decide_eq_true_eq]
  exact ⟨⟨⟨h1, h2⟩, by simp; omega⟩, rise_take i h4⟩
theorem rise_before {many : Int} : ∀ {hs : List Hk} {e : Int} {i : Nat} {x : Hk}, riseB many e hs = true → hs[i]? = some x → e < x.at_ ∧ ∀ y ∈ hs.take i, y.at_ + y.gone ≤ x.at_
  | [], e, i, x, _, hi => by simp at hi
  | y :: hs, e, 0, x, h, hi => by
    simp at hi
    subst hi
    simp only [riseB, Bool.and_eq_true, decide_eq_true_eq] at h
    exact ⟨h.1.2, fun z hz => by simp at hz⟩
  | y :: hs, e, i + 1, x, h, hi => by
    simp only [riseB, Bool.and_eq_true, decide_eq_true_eq] at h
    obtain ⟨h1, h2⟩ := rise_before h.2 (by simpa using hi)
    have h3 := hunkB_parts h.1.1
    refine ⟨by omega, fun z hz => ?_⟩
    rw [List.take_succ_cons] at hz
    rcases List.mem_cons.1 hz with rfl | hz
    · omega
    · exact h2 z hz
/-- How many lines more there are behind the first steps. -/
def moreP (p : List Sp) (i : Nat) : Int := (p.take i).foldl (fun m x => m + ((x.new.length : Int) - x.old.length)) 0
theorem moreP_zero (p : List Sp) : moreP p 0 = 0 := by simp [moreP]
theorem moreP_succ {p : List Sp} {i : Nat} {x : Sp} (h : p[i]? = some x) : moreP p (i + 1) = moreP p i + ((x.new.length : Int) - x.old.length) := by
  unfold moreP
  rw [take_snoc h, List.foldl_append]
  rfl
theorem fold_map (p : List Sp) : ∀ m : Int, (p.map hunkP).foldl (fun m x => m + ((x.new.length : Int) - x.gone)) m = p.foldl (fun m x => m + ((x.new.length : Int) - x.old.length)) m := by
  induction p with
  | nil => intro m; rfl
  | cons x p ih => intro m; rw [List.map_cons, List.foldl_cons, List.foldl_cons, ih]; rfl
/-- PlaceOf of the hunks ahead, at the place of a hunk, when all are good. -/
theorem place_atP {many : Int} {p : List Sp} {i : Nat} {x : Sp} (hg : goodH many (p.map hunkP) = true) (hx : p[i]? = some x) :
    placeOf ((p.map hunkP).take i) many (hunkP x).at_ = ((hunkP x).at_ + moreP p i, true) := by
  have hx2 : (p.map hunkP)[i]? = some (hunkP x) := by simp [hx]
  obtain ⟨h1, h2, h3, h4⟩ := goodH_parts hg
  obtain ⟨b1, b2⟩ := rise_before h4 hx2
  have hm := goodH_mem hg (List.mem_of_getElem? hx2)
  have hp := place_ahead (k := (hunkP x).at_) (more := 0) (rise_take i h4) b2
  rw [← List.map_take, fold_map] at hp
  have hv : placeN ((p.map hunkP).take i) (hunkP x).at_ = (hunkP x).at_ + moreP p i := by
    unfold placeN
    rw [← List.map_take, hp]
    rfl
  have hn : 0 ≤ (hunkP x).at_ + moreP p i := place_nonneg (many := many) (e := -1) hm.1 (rise_take i h4) (more := 0) (by omega) (by omega) (by rw [← List.map_take, hp]; rfl)
  unfold placeOf
  rw [hv, if_pos ⟨goodH_take i hg, hm.1, by omega, hn⟩]

/-- ApplySteps' answers. -/
def applyOf (l : List ByteArray) (p : List Sp) : List ByteArray × Int × Bool :=
  if (hunksOf l p).2.2 = true ∧ (hunksOf l p).2.1 = 0 then
    (if (patchOf l (hunksOf l p).1).2 = true then ((patchOf l (hunksOf l p).1).1, 0, true) else ([], 2, true))
  else ([], (hunksOf l p).2.1, (hunksOf l p).2.2)

end Go.Proofs.YtkamenidgkjodaaGreatDoor.M

namespace Go.Proofs.YtkamenidgkjodaaGreatDoor.M
open Go

/-- Good lines' lines in the midst are good. -/
theorem goodB_midP {a b c : List ByteArray} (h : goodB (a ++ b ++ c) = true) : goodB b = true := by
  have hl := goodB_len h
  have hat := fun (j : Nat) s (hj : b[j]? = some s) => by
    have hjb : j < b.length := (List.getElem?_eq_some_iff.1 hj).1
    have e : (a ++ b ++ c)[a.length + j]? = some s := by
      rw [List.append_assoc, List.getElem?_append_right (by omega), Nat.add_sub_cancel_left, List.getElem?_append_left hjb]; exact hj
    exact goodB_at h e
  have h1 : goodB b = decide (b.length ≤ 40) := goodB_ok (fun j s hj => by
    obtain ⟨q1, q2⟩ := hat j s hj
    unfold okAt
    rw [q1, Bool.true_and, Bool.or_eq_true, decide_eq_true_eq]
    by_cases hlast : b.length ≤ j + 1
    · exact .inl hlast
    · exact .inr (q2 (by simp only [List.length_append]; omega)))
  rw [h1, decide_eq_true_eq]
  simp only [List.length_append] at hl
  omega
theorem seg_split (l : List ByteArray) {p q : Nat} (h : p ≤ q) : l = l.take p ++ seg l p q ++ l.drop q := by
  unfold seg
  have h1 : l.take p = (l.take q).take p := by rw [List.take_take, Nat.min_eq_left h]
  rw [h1, List.take_append_drop, List.take_append_drop]
theorem goodB_segP {l : List ByteArray} (h : goodB l = true) {p q : Nat} (hpq : p ≤ q) : goodB (seg l p q) = true := by
  rw [seg_split l hpq] at h
  exact goodB_midP h

theorem norm_all {l : List ByteArray} (hl : goodB l = true) : ∀ {hs : List Hk} {p : Nat} {more : Int} {P : List ByteArray}, restOk l.length hs p → (P.length : Int) = p + more → goodB (P ++ patchFrom l p hs) = true →
    (normFrom l more hs).all stepB = true ∧ (normFrom l more hs).map hunkP = hs ∧ otherB l more (normFrom l more hs) = false
  | [], p, more, P, _, _, _ => ⟨rfl, rfl, rfl⟩
  | x :: hs, p, more, P, hr, hP, hg => by
    obtain ⟨a, g, ea, eg, hpa, hag, hln, hno, hr2⟩ := rest_step (hs := x :: hs) (j := 0) rfl hr
    obtain ⟨xa, xg, xn⟩ := x
    dsimp only at ea eg
    subst ea eg
    have hl40 := goodB_len hl
    have hag2 : a + g ≤ l.length := by omega
    have hpf : patchFrom l p (⟨(a : Int), (g : Int), xn⟩ :: hs) = seg l p a ++ xn ++ patchFrom l (a + g) hs := by
      rw [patchFrom]; dsimp only; rw [Int.toNat_natCast, show ((a : Int) + (g : Int)).toNat = a + g by omega]
    rw [hpf] at hg
    have hsl : (seg l p a).length = a - p := by rw [seg_len]; omega
    have hgn : goodB xn = true := goodB_midP (a := P ++ seg l p a) (b := xn) (c := patchFrom l (a + g) hs) (by simpa using hg)
    have htot := goodB_len hg
    simp only [List.length_append] at htot
    have hgP : goodB ((P ++ seg l p a ++ xn) ++ patchFrom l (a + g) hs) = true := by simpa using hg
    obtain ⟨i1, i2, i3⟩ := norm_all hl (hs := hs) (p := a + g) (more := more + ((xn.length : Int) - (g : Int))) (P := P ++ seg l p a ++ xn) hr2 (by simp only [List.length_append, hsl]; omega) hgP
    have hold : oldOf l ⟨(a : Int), (g : Int), xn⟩ = seg l a (a + g) := by
      unfold oldOf; dsimp only; rw [Int.toNat_natCast, show ((a : Int) + (g : Int)).toNat = a + g by omega]
    have holn : (seg l a (a + g)).length = g := by rw [seg_len]; omega
    have hgo : goodB (seg l a (a + g)) = true := goodB_segP hl (by omega)
    obtain ⟨am, ham⟩ : ∃ am : Nat, (a : Int) + more = (am : Int) := ⟨((a : Int) + more).toNat, by omega⟩
    have ham2 : am + xn.length ≤ 40 := by omega
    have hst : stepOf l more ⟨(a : Int), (g : Int), xn⟩ = ⟨numI (a : Int) g, (a : Int) + g, seg l a (a + g), numI (am : Int) xn.length, (am : Int) + xn.length, xn⟩ := by
      unfold stepOf; dsimp only; rw [hold, ham, Int.toNat_natCast]
    have hgx : ¬ (g = 0 ∧ xn.length = 0) := by
      intro e
      simp [nothing, e.1, e.2] at hno
    have hs1 : sideB (numI (a : Int) g) ((a : Int) + g) (seg l a (a + g)) = true := by
      unfold sideB numI
      rw [hgo, holn]
      by_cases h0 : g = 0
      · simp only [if_pos h0, Bool.and_true, Bool.and_eq_true, decide_eq_true_eq]; omega
      · simp only [if_neg h0, Bool.and_true, Bool.and_eq_true, decide_eq_true_eq]; omega
    have hs2 : sideB (numI (am : Int) xn.length) ((am : Int) + xn.length) xn = true := by
      unfold sideB numI
      rw [hgn]
      by_cases h0 : xn.length = 0
      · simp only [if_pos h0, Bool.and_true, Bool.and_eq_true, decide_eq_true_eq]; omega
      · simp only [if_neg h0, Bool.and_true, Bool.and_eq_true, decide_eq_true_eq]; omega
    have hhk : hunkP (stepOf l more ⟨(a : Int), (g : Int), xn⟩) = ⟨(a : Int), (g : Int), xn⟩ := by
      rw [hst]
      unfold hunkP baseI numI
      dsimp only
      rw [holn]
      by_cases h0 : g = 0
      · rw [if_pos h0, if_pos h0]
      · rw [if_neg h0, if_neg h0]; congr 1; omega
    refine ⟨?_, ?_, ?_⟩
    · rw [normFrom, List.all_cons, Bool.and_eq_true]
      refine ⟨?_, i1⟩
      rw [hst]
      unfold stepB
      dsimp only
      rw [hs1, hs2, holn]
      simp only [Bool.true_and, decide_eq_true_eq]
      omega
    · rw [normFrom, List.map_cons, hhk, i2]
    · rw [normFrom, otherB, hhk, hold]
      have e1 : (stepOf l more ⟨(a : Int), (g : Int), xn⟩).old = seg l a (a + g) := by rw [hst]
      have e2 : (stepOf l more ⟨(a : Int), (g : Int), xn⟩).new = xn := by rw [hst]
      have e3 : (stepOf l more ⟨(a : Int), (g : Int), xn⟩).at_ = numI (am : Int) xn.length := by rw [hst]
      rw [e1, e2, e3, holn, eqT_refl]
      have e4 : baseI (numI (am : Int) xn.length) xn = (am : Int) := by
        unfold baseI numI
        by_cases h0 : xn.length = 0
        · rw [if_pos h0, if_pos h0]
        · rw [if_neg h0, if_neg h0]; omega
      rw [e4, ham]
      simp only [Bool.not_true, ne_eq, not_true_eq_false, decide_false, Bool.or_false, Bool.false_or]
      exact i3

/-- The steps of hunks that Patch takes. -/
theorem norm_back {l : List ByteArray} {hs : List Hk} (h : patchOk l hs = true) : stepsB (normH l hs) = true ∧ hunksOf l (normH l hs) = (hs, 0, true) ∧ applyOf l (normH l hs) = ((patchOf l hs).1, 0, true) := by
  obtain ⟨h1, h2, h3⟩ := patchOk_parts h
  obtain ⟨i1, i2, i3⟩ := norm_all h1 (hs := hs) (p := 0) (more := 0) (P := []) (rest_start h2) (by simp) (by rw [List.nil_append]; exact h3)
  have hst : stepsB (normH l hs) = true := by
    unfold stepsB
    rw [Bool.and_eq_true, decide_eq_true_eq]
    exact ⟨i1, by unfold normH; rw [norm_len]; exact (goodH_parts h2).2.2.1⟩
  have hhk : hunksOf l (normH l hs) = (hs, 0, true) := by
    unfold hunksOf hunksOk hunksC
    rw [h1, hst]
    have e : (normH l hs).map hunkP = hs := i2
    have e2 : otherB l 0 (normH l hs) = false := i3
    rw [e, e2, h2]
    rfl
  refine ⟨hst, hhk, ?_⟩
  unfold applyOf
  rw [hhk]
  dsimp only
  rw [if_pos ⟨rfl, rfl⟩, if_pos (by rw [patchOf_ok]; exact h)]

end Go.Proofs.YtkamenidgkjodaaGreatDoor.M
