/-
  Plain facts on numerals and on texts cut at a comma: no Go, no program.
-/
import Derived.Test.YtnnaigoomipklaaGreatDoorOgBase
import Derived.Lib.AtoiAll
import Derived.Lib.ItoaNum
import Derived.Lib.IndexMore
set_option linter.unusedSimpArgs false
set_option linter.unusedVariables false
namespace Go.Proofs.YtnnaigoomipklaaGreatDoor.M
open Go

def digB (c : UInt8) : Bool := decide (48 ≤ c.toNat) && decide (c.toNat ≤ 57)
def valF (acc : Nat) (l : List UInt8) : Nat := l.foldl (fun n c => 10 * n + (c.toNat - 48)) acc
/-- The number that a text of 1 to 'most' digits in its one form is. -/
def numTo (most : Nat) (l : List UInt8) : Option Nat :=
  if 1 ≤ l.length ∧ l.length ≤ most ∧ ¬ (l.head? = some 48 ∧ 1 < l.length) ∧ l.all digB = true then some (valF 0 l) else none
def numL (l : List UInt8) : Option Nat := numTo 4 l

theorem valF_snoc (l : List UInt8) (c : UInt8) (acc : Nat) : valF acc (l ++ [c]) = 10 * valF acc l + (c.toNat - 48) := by simp [valF]
theorem valF_cons (l : List UInt8) (c : UInt8) (acc : Nat) : valF acc (c :: l) = valF (10 * acc + (c.toNat - 48)) l := by unfold valF; rw [List.foldl_cons]

theorem digB_iff (c : UInt8) : digB c = true ↔ 48 ≤ c.toNat ∧ c.toNat ≤ 57 := by simp [digB]

theorem dig_nat (d : Nat) (h : d < 10) : (UInt8.ofNat (48 + d)).toNat = 48 + d := by
  simp; omega
theorem dig_of (c : UInt8) (h : digB c = true) : UInt8.ofNat (48 + (c.toNat - 48)) = c := by
  obtain ⟨h1, h2⟩ := (digB_iff c).1 h
  rw [show 48 + (c.toNat - 48) = c.toNat by omega]; simp

theorem dec_small {u : Nat} (h : u < 10) : Lib.decDigits u = [UInt8.ofNat (48 + u)] := by rw [Lib.decDigits, dif_pos h]
theorem dec_big {u : Nat} (h : ¬ u < 10) : Lib.decDigits u = Lib.decDigits (u / 10) ++ [UInt8.ofNat (48 + u % 10)] := by rw [Lib.decDigits, dif_neg h]

theorem dec_ne (u : Nat) : Lib.decDigits u ≠ [] := by
  by_cases h : u < 10
  · rw [dec_small h]; simp
  · rw [dec_big h]; simp

theorem dec_all (u : Nat) : (Lib.decDigits u).all digB = true := by
  induction u using Nat.strongRecOn with
  | _ u ih =>
    by_cases h : u < 10
    · rw [dec_small h]; simp [digB]; omega
    · rw [dec_big h, List.all_append, ih (u / 10) (by omega)]; simp [digB]; omega

theorem dec_val (u : Nat) : valF 0 (Lib.decDigits u) = u := by
  induction u using Nat.strongRecOn with
  | _ u ih =>
    by_cases h : u < 10
    · rw [dec_small h, valF_cons, dig_nat u h]; simp [valF]
    · rw [dec_big h, valF_snoc, ih (u / 10) (by omega), dig_nat _ (Nat.mod_lt _ (by omega))]; omega

theorem head_app {a b : List UInt8} (h : a ≠ []) : (a ++ b).head? = a.head? := by
  cases a with
  | nil => exact absurd rfl h
  | cons c r => rfl

theorem dec_head (u : Nat) (h0 : 1 ≤ u) : (Lib.decDigits u).head? ≠ some 48 := by
  induction u using Nat.strongRecOn with
  | _ u ih =>
    by_cases h : u < 10
    · rw [dec_small h]
      intro e
      have e := Option.some.inj e
      have e2 := congrArg UInt8.toNat e
      rw [dig_nat u h] at e2
      simp at e2
      omega
    · rw [dec_big h, head_app (dec_ne _)]; exact ih (u / 10) (by omega) (by omega)

theorem dec_len (k : Nat) : ∀ u, u < 10 ^ (k + 1) → (Lib.decDigits u).length ≤ k + 1 := by
  induction k with
  | zero => intro u h; rw [dec_small (by simpa using h)]; simp
  | succ k ih =>
    intro u h
    by_cases h1 : u < 10
    · rw [dec_small h1]; simp
    · rw [dec_big h1, List.length_append]
      have := ih (u / 10) (by rw [Nat.pow_succ] at h; omega)
      simp; omega

theorem numL_dec (u : Nat) (h : u ≤ 9999) : numL (Lib.decDigits u) = some u := by
  have h1 : 1 ≤ (Lib.decDigits u).length := List.length_pos_iff.2 (dec_ne u)
  have h2 := dec_len 3 u (by simp; omega)
  have h3 : ¬ ((Lib.decDigits u).head? = some 48 ∧ 1 < (Lib.decDigits u).length) := by
    intro ⟨e1, e2⟩
    by_cases h0 : 1 ≤ u
    · exact dec_head u h0 e1
    · rw [dec_small (by omega)] at e2; simp at e2
  unfold numL numTo
  rw [if_pos ⟨h1, h2, h3, dec_all u⟩, dec_val]

theorem val_pos : ∀ (l : List UInt8) (acc : Nat), 1 ≤ acc → 1 ≤ valF acc l
  | [], acc, h => h
  | c :: r, acc, h => by rw [valF_cons]; exact val_pos r _ (by omega)

theorem val_lt : ∀ (l : List UInt8) (acc k : Nat), l.all digB = true → acc < 10 ^ k → valF acc l < 10 ^ (k + l.length)
  | [], acc, k, _, h => by simpa [valF] using h
  | c :: r, acc, k, hl, h => by
    rw [List.all_cons, Bool.and_eq_true] at hl
    obtain ⟨h1, h2⟩ := (digB_iff c).1 hl.1
    rw [valF_cons]
    have := val_lt r (10 * acc + (c.toNat - 48)) (k + 1) hl.2 (by rw [Nat.pow_succ]; omega)
    rw [List.length_cons, show k + (r.length + 1) = k + 1 + r.length by omega]
    exact this

/-- Digits in their one form are the numeral of what they spell. -/
theorem dec_of_val (n : Nat) : ∀ l : List UInt8, l.length = n → 1 ≤ n → ¬ (l.head? = some 48 ∧ 1 < l.length) → l.all digB = true → Lib.decDigits (valF 0 l) = l := by
  induction n with
  | zero => intro l _ h; omega
  | succ n ih =>
    intro l hl _ hh ha
    rcases List.eq_nil_or_concat l with rfl | ⟨p, c, rfl⟩
    · simp at hl
    · rw [List.concat_eq_append] at *
      rw [List.all_append, Bool.and_eq_true] at ha
      have hc : digB c = true := by simpa using ha.2
      obtain ⟨c1, c2⟩ := (digB_iff c).1 hc
      rw [valF_snoc]
      cases p with
      | nil =>
        rw [show valF 0 [] = 0 from rfl, Nat.mul_zero, Nat.zero_add, dec_small (by omega), dig_of c hc]; rfl
      | cons d r =>
        have hd : ¬ d = 48 := by
          intro e
          exact hh ⟨by simp [e], by simp⟩
        have ha1 := ha.1
        rw [List.all_cons, Bool.and_eq_true] at ha1
        obtain ⟨d1, d2⟩ := (digB_iff d).1 ha1.1
        have hd2 : d.toNat ≠ 48 := fun e => hd (UInt8.toNat.inj (by simpa using e))
        have hv : 1 ≤ valF 0 (d :: r) := by rw [valF_cons]; exact val_pos r _ (by omega)
        have hi := ih (d :: r) (by simpa using hl) (by simp at hl; omega) (fun ⟨e, _⟩ => hd (Option.some.inj e)) ha.1
        rw [dec_big (by omega), show (10 * valF 0 (d :: r) + (c.toNat - 48)) / 10 = valF 0 (d :: r) by omega, show (10 * valF 0 (d :: r) + (c.toNat - 48)) % 10 = c.toNat - 48 by omega, hi, dig_of c hc]

theorem parse_ok : ∀ (l : List UInt8) (acc k : Nat), l.all digB = true → acc < 10 ^ k → k + l.length ≤ 4 → Lib.parseUint10 acc l = .ok (valF acc l)
  | [], acc, k, _, _, _ => rfl
  | c :: r, acc, k, hl, h, hk => by
    rw [List.all_cons, Bool.and_eq_true] at hl
    obtain ⟨h1, h2⟩ := (digB_iff c).1 hl.1
    simp only [List.length_cons] at hk
    have hb : (10 : Nat) ^ k ≤ 10 ^ 4 := Nat.pow_le_pow_right (by omega) (by omega)
    rw [Lib.parseUint10, if_pos ⟨h1, h2⟩, if_neg (by omega), if_neg (by omega), show acc * 10 + (c.toNat - 48) = 10 * acc + (c.toNat - 48) by omega, valF_cons]
    exact parse_ok r _ (k + 1) hl.2 (by rw [Nat.pow_succ]; omega) (by omega)

/-- What is a number is what Atoi reads, and it is written so again. -/
theorem numL_some {l : List UInt8} {n : Nat} (h : numL l = some n) : n ≤ 9999 ∧ Lib.atoiAll l = .ok (n : Int) ∧ Lib.itoa (n : Int) = l := by
  unfold numL numTo at h
  split at h
  · rename_i hc
    obtain ⟨h1, h2, h3, h4⟩ := hc
    have hn := Option.some.inj h
    have hlt := val_lt l 0 0 h4 (by simp)
    have hp : (10 : Nat) ^ (0 + l.length) ≤ 10 ^ 4 := Nat.pow_le_pow_right (by omega) (by omega)
    have hn4 : n ≤ 9999 := by rw [← hn]; omega
    refine ⟨hn4, ?_, ?_⟩
    · cases l with
      | nil => simp at h1
      | cons c r =>
        have hc : digB c = true := by rw [List.all_cons, Bool.and_eq_true] at h4; exact h4.1
        obtain ⟨c1, c2⟩ := (digB_iff c).1 hc
        have hpm : Lib.parseMag (c :: r) = .ok n := by
          unfold Lib.parseMag
          rw [if_neg (by simp), parse_ok (c :: r) 0 0 h4 (by simp) (by simpa using h2), hn]
        simp only [Lib.atoiAll]
        rw [if_neg (by omega), hpm]
        simp only []
        rw [if_neg (by omega), if_neg (by omega), if_neg (by omega)]
    · unfold Lib.itoa
      rw [if_neg (by omega), Int.toNat_natCast, ← hn]
      exact dec_of_val l.length l rfl h1 h3 h4
  · cases h

theorem numL_of_atoi {l : List UInt8} {v : Int} (h0 : 0 ≤ v) (h1 : v ≤ 9999) (h2 : Lib.itoa v = l) : numL l = some v.toNat := by
  subst h2
  unfold Lib.itoa
  rw [if_neg (by omega)]
  exact numL_dec _ (by omega)

theorem numL_none_of {l : List UInt8} (h : ∀ v, Lib.atoiAll l ≠ .ok v) : numL l = none := by
  cases e : numL l with
  | none => rfl
  | some n => exact absurd (numL_some e).2.1 (h _)
theorem numL_none_bad {l : List UInt8} {v : Int} (h : Lib.atoiAll l = .ok v) (hb : v < 0 ∨ 9999 < v ∨ Lib.itoa v ≠ l) : numL l = none := by
  cases e : numL l with
  | none => rfl
  | some n =>
    obtain ⟨a, b, c⟩ := numL_some e
    rw [h] at b
    have hv : v = (n : Int) := by injection b
    subst hv
    rcases hb with hb | hb | hb
    · omega
    · omega
    · exact absurd c hb

theorem numL_comma {l : List UInt8} (h : (44 : UInt8) ∈ l) : numL l = none := by
  unfold numL numTo
  rw [if_neg]
  rintro ⟨_, _, _, h4⟩
  have := List.all_eq_true.1 h4 44 h
  simp [digB] at this

/-! Texts cut at a byte. -/

def splitB (b : UInt8) : List UInt8 → List (List UInt8)
  | [] => [[]]
  | c :: r => if c = b then [] :: splitB b r else (splitB b r).modifyHead (fun h => c :: h)

theorem split_none (b : UInt8) : ∀ p : List UInt8, b ∉ p → splitB b p = [p]
  | [], _ => rfl
  | c :: r, h => by
    have h1 : ¬ c = b := fun e => h (by simp [e])
    have h2 : b ∉ r := fun e => h (by simp [e])
    rw [splitB, if_neg h1, split_none b r h2]; rfl
theorem split_hit (b : UInt8) : ∀ p q : List UInt8, b ∉ p → splitB b (p ++ b :: q) = p :: splitB b q
  | [], q, _ => by rw [List.nil_append, splitB, if_pos rfl]
  | c :: r, q, h => by
    have h1 : ¬ c = b := fun e => h (by simp [e])
    have h2 : b ∉ r := fun e => h (by simp [e])
    rw [List.cons_append, splitB, if_neg h1, split_hit b r q h2]; rfl
theorem split_pos (b : UInt8) (l : List UInt8) : 1 ≤ (splitB b l).length := by
  cases l with
  | nil => simp [splitB]
  | cons c r =>
    rw [splitB]
    split
    · simp
    · rw [List.length_modifyHead]; exact split_pos b r
theorem split_cases (b : UInt8) (l : List UInt8) : b ∉ l ∨ ∃ p q, l = p ++ b :: q ∧ b ∉ p := by
  induction l with
  | nil => exact .inl (by simp)
  | cons c r ih =>
    by_cases h : c = b
    · exact .inr ⟨[], r, by simp [h], by simp⟩
    · rcases ih with ih | ⟨p, q, e, hp⟩
      · exact .inl (by simp [ih]; exact fun e => h e.symm)
      · exact .inr ⟨c :: p, q, by simp [e], by simp [hp]; exact fun e => h e.symm⟩
theorem split_two (b : UInt8) (q : List UInt8) (h : b ∈ q) : 2 ≤ (splitB b q).length := by
  rcases split_cases b q with h1 | ⟨p, r, rfl, hp⟩
  · exact absurd h h1
  · rw [split_hit b p r hp]
    have := split_pos b r
    simp; omega

theorem index_one_none (b : UInt8) : ∀ p : List UInt8, b ∉ p → Lib.index p [b] = -1
  | [], _ => rfl
  | c :: r, h => by
    have h1 : (b == c) = false := by simp; exact fun e => h (by simp [e])
    have h2 : b ∉ r := fun e => h (by simp [e])
    rw [Lib.index, if_neg (by simp [List.isPrefixOf, h1]), index_one_none b r h2]; rfl
theorem index_one_hit (b : UInt8) : ∀ p q : List UInt8, b ∉ p → Lib.index (p ++ b :: q) [b] = (p.length : Int)
  | [], q, _ => by rw [List.nil_append, Lib.index, if_pos (by simp [List.isPrefixOf])]; rfl
  | c :: r, q, h => by
    have h1 : (b == c) = false := by simp; exact fun e => h (by simp [e])
    have h2 : b ∉ r := fun e => h (by simp [e])
    have hi := index_one_hit b r q h2
    rw [List.cons_append, Lib.index, if_neg (by simp [List.isPrefixOf, h1]), hi, if_neg (by simp)]
    simp
theorem cut_none (b : UInt8) (p : List UInt8) (h : b ∉ p) : Lib.cut p [b] = (p, [], false) := by
  unfold Lib.cut
  rw [index_one_none b p h, if_neg (by omega)]
theorem cut_hit (b : UInt8) (p q : List UInt8) (h : b ∉ p) : Lib.cut (p ++ b :: q) [b] = (p, q, true) := by
  unfold Lib.cut
  rw [index_one_hit b p q h, if_pos (by omega)]
  simp

/-! What the functions of chapter 4 answer. -/

/-- One number or two. -/
def twoL (l : List UInt8) : Option (Nat × Nat) :=
  match numL (Lib.cut l [44]).1, numL (if (Lib.cut l [44]).2.2 then (Lib.cut l [44]).2.1 else (Lib.cut l [44]).1) with
  | some n, some m => some (n, m)
  | _, _ => none
def pairL (l : List UInt8) : Option (Nat × Nat) := (twoL l).filter fun x => decide (max x.1 x.2 ≤ 1000) && decide (x.1 ≤ x.2)

theorem twoL_none {l : List UInt8} (h : (44 : UInt8) ∉ l) : twoL l = (numL l).map fun n => (n, n) := by
  unfold twoL
  rw [cut_none 44 l h]
  simp only [Bool.false_eq_true, if_false]
  cases numL l <;> rfl
theorem twoL_hit {p q : List UInt8} (h : (44 : UInt8) ∉ p) : twoL (p ++ 44 :: q) = match numL p, numL q with | some n, some m => some (n, m) | _, _ => none := by
  unfold twoL
  rw [cut_hit 44 p q h]
  rfl

end Go.Proofs.YtnnaigoomipklaaGreatDoor.M
