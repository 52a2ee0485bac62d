/-
  Groups read back, done to lines and done back: mathematics.
-/
import Derived.Test.YtkamenidgkjodaaGreatDoorQbUBase
import Derived.Test.YtkamenidgkjodaaGreatDoorQbUHunk
set_option linter.unusedSimpArgs false
set_option linter.unusedVariables false
namespace Go.Proofs.YtkamenidgkjodaaGreatDoor.M
open Go



theorem back_ahead {F : List Rw} (hF : ∀ y ∈ F, y.kind = 3) (E r : List Rw) : backRF E (F ++ r) = F.map (fun y => ⟨2, y.line⟩) ++ backRF E r := by
  induction F with
  | nil => rfl
  | cons y F ih =>
    have h1 := hF y (by simp)
    rw [List.cons_append, backRF, if_neg (by omega), if_pos h1, ih (fun z hz => hF z (by simp [hz]))]
    rfl
theorem all3_snoc {F : List Rw} (hF : ∀ y ∈ F, y.kind = 3) (s : ByteArray) : ∀ y ∈ F ++ [⟨3, s⟩], y.kind = 3 := fun y hy => by
  rcases List.mem_append.1 hy with h | h
  · exact hF y h
  · simp at h; rw [h]
theorem back_twice : ∀ (l F E : List Rw) (a : Int), kindsB a l = true → (E = [] ∨ a = 3) → (∀ y ∈ F, y.kind = 3) → backRF E (backRF F l) = F.map (fun y => ⟨2, y.line⟩) ++ (E ++ l)
  | [], F, E, a, _, _, hF => by
    have h := back_ahead hF E []
    rw [List.append_nil] at h
    simpa [backRF] using h
  | x :: l, F, E, a, hk, hE, hF => by
    obtain ⟨k, s⟩ := x
    simp only [kindsB, Bool.and_eq_true, decide_eq_true_eq, Bool.not_eq_true', Bool.and_eq_false_iff, decide_eq_false_iff_not] at hk
    obtain ⟨⟨⟨k1, k3⟩, hn⟩, hk⟩ := hk
    rcases (by omega : k = 1 ∨ k = 2 ∨ k = 3) with rfl | rfl | rfl
    · rw [backRF, if_neg (by simp), if_neg (by simp), back_ahead hF, backRF, if_neg (by simp), if_neg (by simp), back_twice l [] [] 1 hk (.inl rfl) (by simp)]
      simp
    · have hE0 : E = [] := by
        rcases hE with h | h
        · exact h
        · rcases hn with h2 | h2
          · exact absurd h h2
          · exact absurd rfl h2
      subst hE0
      rw [backRF, if_pos rfl]
      have ih := back_twice l (F ++ [(⟨3, s⟩ : Rw)]) [] 2 hk (.inl rfl) (all3_snoc hF s)
      dsimp only at ih ⊢
      rw [ih]
      simp
    · rw [backRF, if_neg (by simp), if_pos rfl, backRF, if_pos rfl]
      have ih := back_twice l F (E ++ [(⟨3, s⟩ : Rw)]) 3 hk (.inr rfl) hF
      dsimp only at ih ⊢
      rw [ih]
      simp
theorem group_kindsB {x : Gp} (h : groupB x = true) : kindsB 1 x.rows = true := by
  unfold groupB rowsB at h
  simp only [Bool.and_eq_true] at h
  exact h.1.1.2
theorem backGp_twice {x : Gp} (h : groupB x = true) : backGp (backGp x) = x := by
  have h1 := back_twice x.rows [] [] 1 (group_kindsB h) (.inl rfl) (by simp)
  unfold backGp
  rw [h1]; rfl
theorem lw_all3 {F : List Rw} (hF : ∀ y ∈ F, y.kind = 3) : lw 3 F = [] := by
  induction F with
  | nil => rfl
  | cons y F ih => simp [lw, hF y (by simp), ih (fun z hz => hF z (by simp [hz]))]
theorem back_lw3 : ∀ (l F : List Rw), kindOk3 l → (∀ y ∈ F, y.kind = 3) → lw 3 (backRF F l) = lw 2 l
  | [], F, _, hF => lw_all3 hF
  | x :: l, F, hk, hF => by
    obtain ⟨k1, k3⟩ := hk x (by simp)
    obtain ⟨k, s⟩ := x
    dsimp only at k1 k3
    rcases (by omega : k = 1 ∨ k = 2 ∨ k = 3) with rfl | rfl | rfl
    · rw [backRF, if_neg (by simp), if_neg (by simp), lw_append, lw_all3 hF]
      simp [lw, back_lw3 l [] hk.tail (by simp)]
    · rw [backRF, if_pos rfl, back_lw3 l _ hk.tail (all3_snoc hF s)]
      simp [lw]
    · rw [backRF, if_neg (by simp), if_pos rfl]
      simp [lw, back_lw3 l F hk.tail hF]
theorem lw_all3b {F : List Rw} (hF : ∀ y ∈ F, y.kind = 3) : lw 2 F = F.map Rw.line := by
  induction F with
  | nil => rfl
  | cons y F ih => simp [lw, hF y (by simp), ih (fun z hz => hF z (by simp [hz]))]
theorem back_lw2 : ∀ (l F : List Rw), kindOk3 l → (∀ y ∈ F, y.kind = 3) → lw 2 (backRF F l) = F.map Rw.line ++ lw 3 l
  | [], F, _, hF => by rw [backRF, lw_all3b hF]; simp [lw]
  | x :: l, F, hk, hF => by
    obtain ⟨k1, k3⟩ := hk x (by simp)
    obtain ⟨k, s⟩ := x
    dsimp only at k1 k3
    rcases (by omega : k = 1 ∨ k = 2 ∨ k = 3) with rfl | rfl | rfl
    · rw [backRF, if_neg (by simp), if_neg (by simp), lw_append, lw_all3b hF]
      simp [lw, back_lw2 l [] hk.tail (by simp)]
    · rw [backRF, if_pos rfl, back_lw2 l _ hk.tail (all3_snoc hF s)]
      simp [lw]
    · rw [backRF, if_neg (by simp), if_pos rfl]
      simp [lw, back_lw2 l F hk.tail hF]
theorem kinds_ahead : ∀ (F r : List Rw) (a : Int), (∀ y ∈ F, y.kind = 3) → kindsB 3 r = true → kindsB a (F ++ r) = true ∨ F = []
  | [], r, a, _, _ => .inr rfl
  | y :: F, r, a, hF, hr => by
    have h1 := hF y (by simp)
    refine .inl ?_
    rw [List.cons_append, kindsB, h1]
    have h2 : kindsB 3 (F ++ r) = true := by
      rcases kinds_ahead F r 3 (fun z hz => hF z (by simp [hz])) hr with h | h
      · exact h
      · rw [h]; exact hr
    simp [h2]
theorem kinds_keep {s : ByteArray} {l : List Rw} (a : Int) (h : kindsB 1 l = true) : kindsB a (⟨1, s⟩ :: l) = true := by simp [kindsB, h]
theorem back_kinds : ∀ (l F : List Rw) (a : Int), kindOk3 l → a ≠ 3 → (∀ y ∈ F, y.kind = 3) → kindsB a (backRF F l) = true
  | [], F, a, _, _, hF => by
    rcases kinds_ahead F [] a hF rfl with h | h
    · rw [List.append_nil] at h; exact h
    · rw [h]; rfl
  | x :: l, F, a, hk, ha, hF => by
    obtain ⟨k1, k3⟩ := hk x (by simp)
    obtain ⟨k, s⟩ := x
    dsimp only at k1 k3
    rcases (by omega : k = 1 ∨ k = 2 ∨ k = 3) with rfl | rfl | rfl
    · have h2 := back_kinds l [] 1 hk.tail (by omega) (by simp)
      rw [backRF, if_neg (by simp), if_neg (by simp)]
      rcases kinds_ahead F (⟨1, s⟩ :: backRF [] l) a hF (kinds_keep 3 h2) with h | h
      · exact h
      · rw [h]; exact kinds_keep a h2
    · rw [backRF, if_pos rfl]
      exact back_kinds l _ a hk.tail ha (all3_snoc hF s)
    · have h2 := back_kinds l F 2 hk.tail (by omega) hF
      rw [backRF, if_neg (by simp), if_pos rfl, kindsB]
      simp [ha, h2]
theorem someB_app (a b : List Rw) : someB (a ++ b) = (someB a || someB b) := by simp [someB]
theorem someB_cons (x : Rw) (b : List Rw) : someB (x :: b) = (decide (x.kind ≠ 1) || someB b) := rfl
theorem back_some : ∀ (l F : List Rw), someB (backRF F l) = (someB F || someB l)
  | [], F => by rw [backRF]; simp [someB]
  | x :: l, F => by
    rw [backRF]
    split
    · rename_i e
      rw [back_some l, someB_app, someB_cons, someB_cons]
      simp [e]
    · split
      · rename_i e
        rw [someB_cons, someB_cons]
        simp [e]
      · rw [someB_app, someB_cons, someB_cons, back_some l []]
        simp [someB]
theorem group_back {x : Gp} (h : groupB x = true) : groupB (backGp x) = true := by
  have hk := group_kinds h
  have e3 : lw 3 (backGp x).rows = lw 2 x.rows := back_lw3 x.rows [] hk (by simp)
  have e2 : lw 2 (backGp x).rows = lw 3 x.rows := back_lw2 x.rows [] hk (by simp)
  have e4 : (backGp x).rows.length = x.rows.length := by unfold backGp; simp [backRF_len]
  have e5 : someB (backGp x).rows = someB x.rows := back_some x.rows []
  have e6 : kindsB 1 (backGp x).rows = true := back_kinds x.rows [] 1 hk (by omega) (by simp)
  unfold groupB rowsB at h ⊢
  rw [e3, e2, e4, e5, e6]
  have e7 : (backGp x).at_ = x.to_ := rfl
  have e8 : (backGp x).to_ = x.at_ := rfl
  rw [e7, e8]
  simp only [Bool.and_eq_true, and_true] at h ⊢
  exact ⟨⟨h.1.1.1, h.2⟩, h.1.2⟩
theorem good_back : ∀ (g : List Gp) (a t : Int), goodGF a t g = true → goodGF t a (g.map backGp) = true
  | [], _, _, _ => rfl
  | x :: g, a, t, h => by
    rw [List.map_cons, goodGF]
    rw [goodGF] at h
    simp only [Bool.and_eq_true, decide_eq_true_eq] at h ⊢
    have hk := group_kinds h.1.1
    have e3 : lw 3 (backGp x).rows = lw 2 x.rows := back_lw3 x.rows [] hk (by simp)
    have e2 : lw 2 (backGp x).rows = lw 3 x.rows := back_lw2 x.rows [] hk (by simp)
    rw [e3, e2]
    exact ⟨⟨group_back h.1.1, h.1.2.2, h.1.2.1⟩, good_back g _ _ h.2⟩
theorem goodG_back {g : List Gp} (h : goodG g = true) : goodG (g.map backGp) = true := by
  unfold goodG at h ⊢
  simp only [Bool.and_eq_true, decide_eq_true_eq, List.length_map] at h ⊢
  exact ⟨h.1, good_back g 0 0 h.2⟩
theorem map_twice {g : List Gp} (h : ∀ x ∈ g, groupB x = true) : (g.map backGp).map backGp = g := by
  rw [List.map_map]
  conv => rhs; rw [← List.map_id g]
  exact List.map_congr_left fun x hx => backGp_twice (h x hx)


def addN (a : Int) (cur : Option Hk) (F : List Rw) : Option Hk := if F = [] then cur else some ⟨(openH a cur).at_, (openH a cur).gone, (openH a cur).new ++ F.map Rw.line⟩
theorem runs_new3 (a : Int) (r : List Rw) : ∀ (F : List Rw) (cur : Option Hk), (∀ y ∈ F, y.kind = 3) → runsF a cur (F ++ r) = runsF a (addN a cur F) r
  | [], cur, _ => by simp [addN]
  | y :: F, cur, h => by
    have h1 := h y (by simp)
    rw [List.cons_append, runsF, if_neg (by omega), if_neg (by omega), runs_new3 a r F _ (fun z hz => h z (by simp [hz]))]
    congr 1
    unfold addN
    rw [if_neg (by simp : ¬ (y :: F = []))]
    by_cases e : F = []
    · subst e; simp
    · rw [if_neg e]; simp [openH]
theorem runs_norm : ∀ (l F : List Rw) (a : Int) (cur : Option Hk), kindOk3 l → (∀ y ∈ F, y.kind = 3) → runsF a cur (normR F l) = runsF a (addN a cur F) l
  | [], F, a, cur, _, hF => by
    have h := runs_new3 a [] F cur hF
    rw [List.append_nil] at h
    rw [normR, h]
  | x :: l, F, a, cur, hk, hF => by
    obtain ⟨k1, k3⟩ := hk x (by simp)
    rcases (by omega : x.kind = 1 ∨ x.kind = 2 ∨ x.kind = 3) with e | e | e
    · rw [normR, if_neg (by omega), if_neg (by omega), runs_new3 a _ F cur hF]
      have ih := runs_norm l [] (a + 1) none hk.tail (by simp)
      simp only [runsF, if_pos e, ih]
      rfl
    · have ih := runs_norm l F (a + 1) (some ⟨(openH a cur).at_, (openH a cur).gone + 1, (openH a cur).new⟩) hk.tail hF
      have e1 : ¬ x.kind = 1 := by omega
      rw [normR, if_pos e]
      simp only [runsF, if_neg e1, if_pos e, ih]
      congr 1
      unfold addN
      by_cases e0 : F = []
      · subst e0; simp
      · rw [if_neg e0, if_neg e0]; simp [openH]
    · have ih := runs_norm l (F ++ [x]) a cur hk.tail (fun y hy => by
        rcases List.mem_append.1 hy with h | h
        · exact hF y h
        · simp at h; rw [h]; exact e)
      have e1 : ¬ x.kind = 1 := by omega
      have e2 : ¬ x.kind = 2 := by omega
      rw [normR, if_neg e2, if_pos e, ih]
      simp only [runsF, if_neg e1, if_neg e2]
      congr 1
      unfold addN
      rw [if_neg (by simp : ¬ (F ++ [x] = []))]
      by_cases e0 : F = []
      · subst e0; simp
      · rw [if_neg e0]; simp [openH]
theorem hunks_back {x : Gp} (h : groupB x = true) : gpHunks (backGp x) = runsF x.to_ none (turnR x.rows) := by
  have hk := group_kinds h
  unfold gpHunks backGp
  dsimp only
  rw [← norm_turn x.rows [] hk, runs_norm (turnR x.rows) [] x.to_ none (turn_kinds hk) (by simp)]
  rfl


theorem seg_cons {l : List ByteArray} {a n : Nat} {s : ByteArray} {r : List ByteArray} (h : s :: r = seg l a (a + (n + 1))) (hl : a + (n + 1) ≤ l.length) : l[a]? = some s ∧ r = seg l (a + 1) (a + 1 + n) := by
  have ha : a < l.length := by omega
  have e : seg l a (a + (n + 1)) = l[a] :: seg l (a + 1) (a + 1 + n) := by
    have e1 := seg_seg (l := l) (p := a) (q := a + 1) (r := a + 1 + n) (by omega) (by omega)
    rw [seg_one (List.getElem?_eq_getElem ha)] at e1
    rw [show a + (n + 1) = a + 1 + n by omega, ← e1]; rfl
  rw [e] at h
  injection h with h1 h2
  exact ⟨by rw [List.getElem?_eq_getElem ha, h1], h2⟩
def OpenBack (l : List ByteArray) (a : Nat) (m t : Int) : Option Hk → Option Hk → Prop
  | none, none => t = a + m
  | some h, some h' => ∃ b : Nat, h.at_ = b ∧ h.gone = (a : Int) - b ∧ b ≤ a ∧ h' = ⟨(b : Int) + m, h.new.length, seg l b a⟩ ∧ t = b + m + h.new.length
  | _, _ => False
section
variable {l : List ByteArray} {a : Nat} {m t : Int} {cur cur' : Option Hk}
theorem OpenBack.close (h : OpenBack l a m t cur cur') (rest : List Hk) : backFrom l m (cur.toList ++ rest) = cur'.toList ++ backFrom l (t - a) rest := by
  cases cur with
  | none =>
    cases cur' with
    | none =>
      have h : t = a + m := h
      simp only [Option.toList, List.nil_append]
      congr 1; omega
    | some h' => exact h.elim
  | some k =>
    cases cur' with
    | none => exact h.elim
    | some k' =>
      obtain ⟨b, h1, h2, h3, rfl, h5⟩ := h
      simp only [Option.toList, List.singleton_append, List.cons_append, List.nil_append, backFrom]
      have e1 : oldOf l k = seg l b a := by
        unfold oldOf
        rw [h2, h1, show ((b : Int)).toNat = b by omega, show ((b : Int) + ((a : Int) - b)).toNat = a by omega]
      rw [e1, h1, h2, show m + ((k.new.length : Int) - ((a : Int) - b)) = t - a by omega]
theorem OpenBack.gone (h : OpenBack l a m t cur cur') {s : ByteArray} (hs : l[a]? = some s) :
    OpenBack l (a + 1) m t (some ⟨(openH a cur).at_, (openH a cur).gone + 1, (openH a cur).new⟩) (some ⟨(openH t cur').at_, (openH t cur').gone, (openH t cur').new ++ [s]⟩) := by
  cases cur with
  | none =>
    cases cur' with
    | none =>
      have h : t = a + m := h
      refine ⟨a, rfl, by simp [openH]; omega, by omega, ?_, by simp [openH]; omega⟩
      rw [seg_one hs]
      simp [openH, h]
    | some h' => exact h.elim
  | some k =>
    cases cur' with
    | none => exact h.elim
    | some k' =>
      obtain ⟨b, h1, h2, h3, rfl, h5⟩ := h
      refine ⟨b, h1, by simp only [openH, Option.getD]; omega, by omega, ?_, h5⟩
      rw [seg_succ h3 hs]
      rfl
theorem OpenBack.new (h : OpenBack l a m t cur cur') (s : ByteArray) :
    OpenBack l a m (t + 1) (some ⟨(openH a cur).at_, (openH a cur).gone, (openH a cur).new ++ [s]⟩) (some ⟨(openH t cur').at_, (openH t cur').gone + 1, (openH t cur').new⟩) := by
  cases cur with
  | none =>
    cases cur' with
    | none =>
      have h : t = a + m := h
      refine ⟨a, rfl, by simp [openH], by omega, ?_, by simp [openH]; omega⟩
      rw [seg_self]
      simp [openH, h]
    | some h' => exact h.elim
  | some k =>
    cases cur' with
    | none => exact h.elim
    | some k' =>
      obtain ⟨b, h1, h2, h3, rfl, h5⟩ := h
      refine ⟨b, h1, h2, h3, ?_, by simp [openH]; omega⟩
      simp [openH]
end
theorem back_runs {l : List ByteArray} {rest : List Hk} {m : Int} : ∀ (rows : List Rw) (a : Nat) (ai t : Int) (cur cur' : Option Hk), ai = a → kindOk3 rows → lw 3 rows = seg l a (a + (lw 3 rows).length) → a + (lw 3 rows).length ≤ l.length →
    OpenBack l a m t cur cur' →
    backFrom l m (runsF ai cur rows ++ rest) = runsF t cur' (turnR rows) ++ backFrom l (t - ai + ((lw 2 rows).length - (lw 3 rows).length)) rest
  | [], a, ai, t, cur, cur', hai, _, _, _, ho => by
    subst hai
    simp only [runsF, turnR, List.map_nil, lw, List.length_nil]
    rw [ho.close, show t - (a : Int) + (((0 : Nat) : Int) - ((0 : Nat) : Int)) = t - a by omega]
  | ⟨k, s⟩ :: rows, a, ai, t, cur, cur', hai, hk, hl, hn, ho => by
    subst hai
    obtain ⟨k1, k3⟩ := hk ⟨k, s⟩ (by simp)
    dsimp only at k1 k3
    have c1 : ((a + 1 : Nat) : Int) = (a : Int) + 1 := by omega
    rcases (by omega : k = 1 ∨ k = 2 ∨ k = 3) with rfl | rfl | rfl
    · have c3 : lw 3 (⟨1, s⟩ :: rows) = s :: lw 3 rows := by simp [lw]
      have c2 : lw 2 (⟨1, s⟩ :: rows) = s :: lw 2 rows := by simp [lw]
      rw [c3] at hl hn
      rw [List.length_cons] at hl hn
      obtain ⟨hs, hr⟩ := seg_cons hl hn
      have hclose := ho.close (runsF ((a : Int) + 1) none rows ++ rest)
      have ho2 : OpenBack l (a + 1) (t - a) (t + 1) none none := by
        show t + 1 = ((a + 1 : Nat) : Int) + (t - a)
        omega
      have ih := back_runs (rest := rest) (m := t - a) rows (a + 1) ((a : Int) + 1) (t + 1) none none c1.symm hk.tail hr (by omega) ho2
      have et : turnR (⟨1, s⟩ :: rows) = ⟨1, s⟩ :: turnR rows := by simp [turnR, swapK]
      rw [et, c3, c2]
      simp only [runsF, if_pos, List.append_assoc]
      rw [hclose, ih]
      simp only [List.length_cons, List.append_assoc]
      congr 2
      congr 1
      omega
    · have c3 : lw 3 (⟨2, s⟩ :: rows) = s :: lw 3 rows := by simp [lw]
      have c2 : lw 2 (⟨2, s⟩ :: rows) = lw 2 rows := by simp [lw]
      rw [c3] at hl hn
      rw [List.length_cons] at hl hn
      obtain ⟨hs, hr⟩ := seg_cons hl hn
      have ih := back_runs (rest := rest) (m := m) rows (a + 1) ((a : Int) + 1) t _ _ c1.symm hk.tail hr (by omega) (ho.gone hs)
      have et : turnR (⟨2, s⟩ :: rows) = ⟨3, s⟩ :: turnR rows := by simp [turnR, swapK]
      have n1 : ¬ ((2 : Int) = 1) := by omega
      have n2 : ¬ ((3 : Int) = 1) := by omega
      have n3 : ¬ ((3 : Int) = 2) := by omega
      rw [et, c3, c2]
      simp only [runsF, if_neg n1, if_neg n2, if_neg n3, if_pos]
      rw [ih]
      simp only [List.length_cons]
      congr 2
      omega
    · have c3 : lw 3 (⟨3, s⟩ :: rows) = lw 3 rows := by simp [lw]
      have c2 : lw 2 (⟨3, s⟩ :: rows) = s :: lw 2 rows := by simp [lw]
      rw [c3] at hl hn
      have ih := back_runs (rest := rest) (m := m) rows a (a : Int) (t + 1) _ _ rfl hk.tail hl hn (ho.new s)
      have et : turnR (⟨3, s⟩ :: rows) = ⟨2, s⟩ :: turnR rows := by simp [turnR, swapK]
      have n1 : ¬ ((2 : Int) = 1) := by omega
      have n2 : ¬ ((3 : Int) = 1) := by omega
      have n3 : ¬ ((3 : Int) = 2) := by omega
      rw [et, c3, c2]
      simp only [runsF, if_neg n1, if_neg n2, if_neg n3, if_pos]
      rw [ih]
      simp only [List.length_cons]
      congr 2
      omega
theorem far_cons {l : List ByteArray} {x : Gp} {g : List Gp} (h : farB l (x :: g) = false) : x.at_ + (lw 3 x.rows).length ≤ l.length ∧ farB l g = false := by
  unfold farB at h ⊢
  simp only [List.any_cons, Bool.or_eq_false_iff, decide_eq_false_iff_not] at h
  exact ⟨by omega, h.2⟩
theorem stand_cons {l : List ByteArray} {x : Gp} {g : List Gp} {m : Int} (h : standsF l m (x :: g) = true) : x.to_ = x.at_ + m ∧ lw 3 x.rows = seg l x.at_.toNat (x.at_.toNat + (lw 3 x.rows).length) ∧ standsF l (m + ((lw 2 x.rows).length - (lw 3 x.rows).length)) g = true := by
  rw [standsF] at h
  simp only [Bool.and_eq_true, decide_eq_true_eq] at h
  exact ⟨h.1.1, h.1.2, h.2⟩
theorem back_groups {l : List ByteArray} : ∀ (g : List Gp) (m : Int), (∀ x ∈ g, groupB x = true) → farB l g = false → standsF l m g = true → backFrom l m (hunksF g) = hunksF (g.map backGp)
  | [], m, _, _, _ => rfl
  | x :: g, m, hg, hf, hs => by
    obtain ⟨f1, f2⟩ := far_cons hf
    obtain ⟨s1, s2, s3⟩ := stand_cons hs
    have hx := hg x (by simp)
    obtain ⟨_, h0, _⟩ := groupB_len hx
    have ho : OpenBack l x.at_.toNat m x.to_ none none := by
      show x.to_ = (x.at_.toNat : Int) + m
      omega
    have e := back_runs (rest := hunksF g) (m := m) x.rows x.at_.toNat x.at_ x.to_ none none (by omega) (group_kinds hx) s2 (by omega) ho
    have ih := back_groups g _ (fun y hy => hg y (by simp [hy])) f2 s3
    rw [hunksF_cons, List.map_cons, hunksF_cons, hunks_back hx, ← ih]
    unfold gpHunks
    rw [e]
    congr 2
    omega


def preP (l : List ByteArray) (p a : Nat) : Option Hk → List ByteArray
  | none => seg l p a
  | some h => seg l p h.at_.toNat ++ h.new
def OpenAt (p a : Nat) : Option Hk → Prop
  | none => p ≤ a
  | some h => ∃ b : Nat, h.at_ = b ∧ h.gone = (a : Int) - b ∧ b ≤ a ∧ p ≤ b
theorem patch_runs {l : List ByteArray} {many : Int} {rest : List Hk} : ∀ (rows : List Rw) (p a : Nat) (ai : Int) (cur : Option Hk), ai = a → kindOk3 rows → lw 3 rows = seg l a (a + (lw 3 rows).length) → a + (lw 3 rows).length ≤ l.length →
    restOk many rest (a + (lw 3 rows).length) → OpenAt p a cur →
    patchFrom l p (runsF ai cur rows ++ rest) = preP l p a cur ++ lw 2 rows ++ patchFrom l (a + (lw 3 rows).length) rest
  | [], p, a, ai, none, hai, _, _, _, hr, ho => by
    have ho : p ≤ a := ho
    simp only [runsF, Option.toList, List.nil_append, lw, List.length_nil, Nat.add_zero, List.append_nil, preP] at hr ⊢
    exact patch_shift ho hr
  | [], p, a, ai, some h, hai, _, _, _, hr, ho => by
    obtain ⟨b, h1, h2, h3, h4⟩ := ho
    simp only [runsF, Option.toList, List.singleton_append, List.cons_append, List.nil_append, lw, List.length_nil, Nat.add_zero, List.append_nil, preP, patchFrom]
    rw [show (h.at_ + h.gone).toNat = a by omega]
  | ⟨k, s⟩ :: rows, p, a, ai, cur, hai, hk, hl, hn, hr, ho => by
    subst hai
    obtain ⟨k1, k3⟩ := hk ⟨k, s⟩ (by simp)
    dsimp only at k1 k3
    have c1 : ((a + 1 : Nat) : Int) = (a : Int) + 1 := by omega
    rcases (by omega : k = 1 ∨ k = 2 ∨ k = 3) with rfl | rfl | rfl
    · have c3 : lw 3 (⟨1, s⟩ :: rows) = s :: lw 3 rows := by simp [lw]
      have c2 : lw 2 (⟨1, s⟩ :: rows) = s :: lw 2 rows := by simp [lw]
      rw [c3, List.length_cons] at hl hn hr
      obtain ⟨hs, hq⟩ := seg_cons hl hn
      have hz : a + ((lw 3 rows).length + 1) = a + 1 + (lw 3 rows).length := by omega
      rw [hz] at hr
      rw [c3, c2, List.length_cons, hz]
      simp only [runsF, if_pos, List.append_assoc]
      cases cur with
      | none =>
        have ho : p ≤ a := ho
        have ih := patch_runs (l := l) (many := many) (rest := rest) rows p (a + 1) ((a : Int) + 1) none c1.symm hk.tail hq (by omega) hr (show p ≤ a + 1 by omega)
        simp only [Option.toList, List.nil_append]
        rw [ih]
        simp only [preP]
        rw [seg_succ ho hs]
        simp only [List.append_assoc, List.singleton_append, List.cons_append, List.nil_append]
      | some h =>
        obtain ⟨b, h1, h2, h3, h4⟩ := ho
        have ih := patch_runs (l := l) (many := many) (rest := rest) rows a (a + 1) ((a : Int) + 1) none c1.symm hk.tail hq (by omega) hr (show a ≤ a + 1 by omega)
        simp only [Option.toList, List.singleton_append, List.cons_append, List.nil_append, patchFrom]
        rw [show (h.at_ + h.gone).toNat = a by omega, ih]
        simp only [preP]
        rw [seg_one hs]
        simp only [List.append_assoc, List.singleton_append, List.cons_append, List.nil_append]
    · have c3 : lw 3 (⟨2, s⟩ :: rows) = s :: lw 3 rows := by simp [lw]
      have c2 : lw 2 (⟨2, s⟩ :: rows) = lw 2 rows := by simp [lw]
      rw [c3, List.length_cons] at hl hn hr
      obtain ⟨hs, hq⟩ := seg_cons hl hn
      have hz : a + ((lw 3 rows).length + 1) = a + 1 + (lw 3 rows).length := by omega
      rw [hz] at hr
      have n1 : ¬ ((2 : Int) = 1) := by omega
      rw [c3, c2, List.length_cons, hz]
      simp only [runsF, if_neg n1, if_pos]
      have hoa : OpenAt p (a + 1) (some ⟨(openH a cur).at_, (openH a cur).gone + 1, (openH a cur).new⟩) := by
        cases cur with
        | none => exact ⟨a, rfl, by simp [openH]; omega, by omega, ho⟩
        | some h =>
          obtain ⟨b, h1, h2, h3, h4⟩ := ho
          exact ⟨b, h1, by simp [openH]; omega, by omega, h4⟩
      rw [patch_runs (l := l) (many := many) (rest := rest) rows p (a + 1) ((a : Int) + 1) _ c1.symm hk.tail hq (by omega) hr hoa]
      congr 2
      cases cur with
      | none => simp [preP, openH]
      | some h => rfl
    · have c3 : lw 3 (⟨3, s⟩ :: rows) = lw 3 rows := by simp [lw]
      have c2 : lw 2 (⟨3, s⟩ :: rows) = s :: lw 2 rows := by simp [lw]
      rw [c3] at hl hn hr
      have n1 : ¬ ((3 : Int) = 1) := by omega
      have n2 : ¬ ((3 : Int) = 2) := by omega
      rw [c3, c2]
      simp only [runsF, if_neg n1, if_neg n2]
      have hoa : OpenAt p a (some ⟨(openH a cur).at_, (openH a cur).gone, (openH a cur).new ++ [s]⟩) := by
        cases cur with
        | none => exact ⟨a, rfl, by simp [openH], by omega, ho⟩
        | some h => exact ho
      rw [patch_runs (l := l) (many := many) (rest := rest) rows p a (a : Int) _ rfl hk.tail hl hn hr hoa]
      cases cur with
      | none => simp [preP, openH]
      | some h => simp [preP, openH]

theorem runs_low {lo : Int} : ∀ (rows : List Rw) (a : Int) (cur : Option Hk), lo ≤ a → (∀ h, cur = some h → lo ≤ h.at_) → ∀ z ∈ runsF a cur rows, lo ≤ z.at_
  | [], a, cur, _, hc, z, hz => by
    rw [runsF] at hz
    exact hc z (by simpa using hz)
  | x :: rows, a, cur, ha, hc, z, hz => by
    have ho : lo ≤ (openH a cur).at_ := by
      cases cur with
      | none => exact ha
      | some h => exact hc h rfl
    rw [runsF] at hz
    split at hz
    · rcases List.mem_append.1 hz with h | h
      · exact hc z (by simpa using h)
      · exact runs_low rows (a + 1) none (by omega) (fun h e => by cases e) z h
    · split at hz
      · exact runs_low rows (a + 1) _ (by omega) (fun h e => by injection e with e; subst e; exact ho) z hz
      · exact runs_low rows a _ ha (fun h e => by injection e with e; subst e; exact ho) z hz
theorem hunks_low : ∀ (g : List Gp) (a t : Int), goodGF a t g = true → ∀ z ∈ hunksF g, a ≤ z.at_
  | [], _, _, _, z, hz => by simp [hunksF] at hz
  | x :: g, a, t, h, z, hz => by
    rw [goodGF] at h
    simp only [Bool.and_eq_true, decide_eq_true_eq] at h
    rw [hunksF_cons] at hz
    rcases List.mem_append.1 hz with h1 | h1
    · exact runs_low x.rows x.at_ none h.1.2.1 (fun h e => by cases e) z h1
    · have := hunks_low g _ _ h.2 z h1
      have := h.1.2.1
      omega
theorem rise_behind {many : Int} : ∀ (A B : List Hk) (e : Int), riseB many e (A ++ B) = true → ∃ e', riseB many e' B = true
  | [], B, e, h => ⟨e, h⟩
  | x :: A, B, e, h => by
    rw [List.cons_append, riseB, Bool.and_eq_true] at h
    exact rise_behind A B _ h.2
theorem rise_from {many e e' : Int} {hs : List Hk} (h : riseB many e hs = true) (hz : ∀ z ∈ hs, e' < z.at_) : riseB many e' hs = true := by
  cases hs with
  | nil => rfl
  | cons x r =>
    rw [riseB, Bool.and_eq_true, Bool.and_eq_true, decide_eq_true_eq] at h ⊢
    exact ⟨⟨h.1.1, hz x (by simp)⟩, h.2⟩
theorem stand_back {l : List ByteArray} {many : Int} : ∀ (g : List Gp) (q : Nat) (m a0 t0 : Int) (P : List ByteArray), goodGF a0 t0 g = true → (q : Int) ≤ a0 → farB l g = false → standsF l m g = true → (∃ e, riseB many e (hunksF g) = true) → (P.length : Int) = q + m → q ≤ l.length →
    standsF (P ++ patchFrom l q (hunksF g)) (-m) (g.map backGp) = true ∧ farB (P ++ patchFrom l q (hunksF g)) (g.map backGp) = false
  | [], q, m, a0, t0, P, _, _, _, _, _, _, _ => ⟨rfl, rfl⟩
  | x :: g, q, m, a0, t0, P, hg, hq, hf, hs, hr, hP, hql => by
    obtain ⟨f1, f2⟩ := far_cons hf
    obtain ⟨s1, s2, s3⟩ := stand_cons hs
    rw [goodGF] at hg
    simp only [Bool.and_eq_true, decide_eq_true_eq] at hg
    obtain ⟨⟨hx, g1, g2⟩, g3⟩ := hg
    obtain ⟨_, h0, _⟩ := groupB_len hx
    have hk := group_kinds hx
    have e3 : lw 3 (backGp x).rows = lw 2 x.rows := back_lw3 x.rows [] hk (by simp)
    have e2 : lw 2 (backGp x).rows = lw 3 x.rows := back_lw2 x.rows [] hk (by simp)
    obtain ⟨e, hr⟩ := hr
    rw [hunksF_cons] at hr
    obtain ⟨e', hr'⟩ := rise_behind _ _ _ hr
    have hlow := hunks_low g _ _ g3
    have hrest : restOk many (hunksF g) (x.at_.toNat + (lw 3 x.rows).length) := ⟨x.at_ + (lw 3 x.rows).length - 1, rise_from hr' (fun z hz => by have := hlow z hz; omega), by omega⟩
    have hp := patch_runs (l := l) (many := many) (rest := hunksF g) x.rows q x.at_.toNat x.at_ none (by omega) hk s2 (by omega) hrest (show q ≤ x.at_.toNat by omega)
    rw [hunksF_cons]
    unfold gpHunks
    rw [hp]
    simp only [preP]
    have hsl : (seg l q x.at_.toNat).length = x.at_.toNat - q := by rw [seg_len]; omega
    have ih := stand_back g (x.at_.toNat + (lw 3 x.rows).length) (m + ((lw 2 x.rows).length - (lw 3 x.rows).length)) _ _ (P ++ seg l q x.at_.toNat ++ lw 2 x.rows) g3 (by omega) f2 s3 ⟨e', hr'⟩ (by
      simp only [List.length_append, hsl]; omega) (by omega)
    obtain ⟨R, hR⟩ : ∃ R, patchFrom l (x.at_.toNat + (lw 3 x.rows).length) (hunksF g) = R := ⟨_, rfl⟩
    rw [hR] at ih ⊢
    have eR : P ++ (seg l q x.at_.toNat ++ lw 2 x.rows ++ R) = P ++ seg l q x.at_.toNat ++ lw 2 x.rows ++ R := by simp only [List.append_assoc]
    rw [eR]
    have hto : x.to_.toNat = (P ++ seg l q x.at_.toNat).length := by
      simp only [List.length_append, hsl]; omega
    refine ⟨?_, ?_⟩
    · rw [List.map_cons, standsF, e3, e2]
      have h1 : (backGp x).to_ = x.at_ := rfl
      have h2 : (backGp x).at_ = x.to_ := rfl
      rw [h1, h2, hto, seg_mid]
      have h3 : -m + (((lw 3 x.rows).length : Int) - (lw 2 x.rows).length) = -(m + (((lw 2 x.rows).length : Int) - (lw 3 x.rows).length)) := by omega
      rw [h3, ih.1]
      simp only [Bool.and_true, Bool.and_eq_true, decide_eq_true_eq, and_true]
      omega
    · have ih2 := ih.2
      unfold farB at ih2 ⊢
      rw [List.map_cons, List.any_cons, ih2, Bool.or_false, decide_eq_false_iff_not, e3]
      have h2 : (backGp x).at_ = x.to_ := rfl
      rw [h2]
      have h5 : x.to_ = (x.to_.toNat : Int) := by omega
      rw [h5, hto]
      simp only [List.length_append]
      omega
theorem codeG_zero {l : List ByteArray} {g : List Gp} : codeG l g = 0 ↔ farB l g = false ∧ standsF l 0 g = true := by
  unfold codeG
  cases farB l g <;> cases standsF l 0 g <;> simp
theorem apply_back {l p : List ByteArray} {g : List Gp} (h : applyG l g = (p, 0, true)) :
    applyG p (g.map backGp) = (l, 0, true) ∧ backG g = (g.map backGp, true) ∧ backG (g.map backGp) = (g, true) := by
  unfold applyG at h
  split at h
  · rename_i hgood
    split at h
    · rename_i hc
      split at h
      · rename_i hp
        have hpe : patchH l (hunksF g) = p := by injection h
        obtain ⟨hg0, hgF, hall⟩ : g.length ≤ 20 ∧ goodGF 0 0 g = true ∧ ∀ x ∈ g, groupB x = true := by
          have h1 := hgood.2
          unfold goodG at h1
          simp only [Bool.and_eq_true, decide_eq_true_eq] at h1
          exact ⟨h1.1, h1.2, goodGF_mem h1.2⟩
        obtain ⟨c1, c2⟩ := codeG_zero.1 hc
        obtain ⟨p1, p2, p3⟩ := patchOk_parts hp
        obtain ⟨q1, q2, q3, q4⟩ := patch_back hp
        have hb : backH l (hunksF g) = hunksF (g.map backGp) := back_groups g 0 hall c1 c2
        have hst := stand_back (l := l) (many := l.length) g 0 0 0 0 [] hgF (by omega) c1 c2 ⟨-1, (goodH_parts p2).2.2.2⟩ (by simp) (by omega)
        rw [List.nil_append] at hst
        have hst1 : farB p (g.map backGp) = false ∧ standsF p 0 (g.map backGp) = true := by rw [← hpe]; exact ⟨hst.2, hst.1⟩
        have hgb := goodG_back hgood.2
        rw [hb, hpe] at q1 q2
        refine ⟨?_, by unfold backG; rw [if_pos hgood.2], by unfold backG; rw [if_pos hgb, map_twice hall]⟩
        unfold applyG
        rw [if_pos ⟨by rw [← hpe]; exact p3, hgb⟩, if_pos (codeG_zero.2 hst1), if_pos q1, q2]
      · injection h with h1 h2
        injection h2 with h2 h3
        cases h2
    · rename_i hc
      injection h with h1 h2
      injection h2 with h2 h3
      exact absurd h2 hc
  · injection h with h1 h2
    injection h2 with h2 h3
    cases h3


theorem runs_k1 (r : List Rw) : ∀ (S : List ByteArray) (a : Int), runsF a none (kR 1 S ++ r) = runsF (a + S.length) none r
  | [], a => by simp [kR]
  | s :: S, a => by
    have ih := runs_k1 r S (a + 1)
    have e : kR 1 (s :: S) = ⟨1, s⟩ :: kR 1 S := rfl
    rw [e, List.cons_append, runsF, if_pos rfl, ih, List.length_cons]
    simp only [Option.toList, List.nil_append]
    congr 1
    omega
theorem runs_k1s (r : List Rw) (S : List ByteArray) (a : Int) (h : Hk) (hS : S ≠ []) : runsF a (some h) (kR 1 S ++ r) = h :: runsF (a + S.length) none r := by
  cases S with
  | nil => exact absurd rfl hS
  | cons s S =>
    have e : kR 1 (s :: S) = ⟨1, s⟩ :: kR 1 S := rfl
    rw [e, List.cons_append, runsF, if_pos rfl, runs_k1, List.length_cons]
    simp only [Option.toList, List.singleton_append, List.cons_append, List.nil_append]
    congr 2
    omega
theorem runs_k2 (r : List Rw) : ∀ (S : List ByteArray) (a : Int) (h : Hk), runsF a (some h) (kR 2 S ++ r) = runsF (a + S.length) (some ⟨h.at_, h.gone + S.length, h.new⟩) r
  | [], a, h => by simp [kR]
  | s :: S, a, h => by
    have e : kR 2 (s :: S) = ⟨2, s⟩ :: kR 2 S := rfl
    rw [e, List.cons_append, runsF, if_neg (by simp), if_pos rfl, runs_k2 r S, List.length_cons]
    simp only [openH, Option.getD]
    rw [show a + 1 + (S.length : Int) = a + ((S.length + 1 : Nat) : Int) by omega, show h.gone + 1 + (S.length : Int) = h.gone + ((S.length + 1 : Nat) : Int) by omega]
theorem runs_k2n (r : List Rw) (S : List ByteArray) (a : Int) (hS : S ≠ []) : runsF a none (kR 2 S ++ r) = runsF (a + S.length) (some ⟨a, S.length, []⟩) r := by
  cases S with
  | nil => exact absurd rfl hS
  | cons s S =>
    have e : kR 2 (s :: S) = ⟨2, s⟩ :: kR 2 S := rfl
    rw [e, List.cons_append, runsF, if_neg (by simp), if_pos rfl, runs_k2, List.length_cons]
    simp only [openH, Option.getD]
    rw [show a + 1 + (S.length : Int) = a + ((S.length + 1 : Nat) : Int) by omega, show (0 : Int) + 1 + (S.length : Int) = ((S.length + 1 : Nat) : Int) by omega]
theorem kR_line (k : Int) (S : List ByteArray) : (kR k S).map Rw.line = S := by simp [kR, Function.comp_def]
theorem kR_nil {k : Int} {S : List ByteArray} : kR k S = [] ↔ S = [] := by simp [kR]
theorem runs_one (r : List Rw) (G N : List ByteArray) (a : Int) (h : G ≠ [] ∨ N ≠ []) : runsF a none (kR 2 G ++ (kR 3 N ++ r)) = runsF (a + G.length) (some ⟨a, G.length, N⟩) r := by
  have h3 : ∀ y ∈ kR 3 N, y.kind = 3 := fun y hy => by
    simp only [kR, List.mem_map] at hy
    obtain ⟨s, _, rfl⟩ := hy
    rfl
  by_cases hG : G = []
  · subst hG
    have hN : N ≠ [] := by
      rcases h with h | h
      · exact absurd rfl h
      · exact h
    rw [show kR 2 ([] : List ByteArray) = [] from rfl, List.nil_append, runs_new3 a r _ none h3]
    unfold addN
    rw [if_neg (by rw [kR_nil]; exact hN), kR_line]
    simp [openH]
  · rw [runs_k2n _ G a hG, runs_new3 _ r _ _ h3]
    congr 1
    unfold addN
    by_cases hN : N = []
    · subst hN; simp [kR]
    · rw [if_neg (by rw [kR_nil]; exact hN), kR_line]
      simp [openH]
theorem runs_rowsM {l : List ByteArray} {q : Nat} : ∀ (hs : List Hk) (p : Nat) (cur : Option Hk), q ≤ l.length → (∃ e : Int, riseB q e hs = true ∧ (p : Int) ≤ e + 1 ∧ (cur ≠ none → (p : Int) ≤ e)) →
    runsF p cur (rowsM l q p hs) = cur.toList ++ hs
  | [], p, none, hq, _ => by
    have h := runs_k1 [] (seg l p q) (p : Int)
    rw [List.append_nil] at h
    rw [rowsM, h]; rfl
  | [], p, some h, hq, _ => by
    rw [rowsM]
    by_cases hS : seg l p q = []
    · rw [hS]; rfl
    · have e := runs_k1s [] (seg l p q) (p : Int) h hS
      rw [List.append_nil] at e
      rw [e]; rfl
  | x :: r, p, cur, hq, ⟨e, hr, hp, hc⟩ => by
    rw [riseB, Bool.and_eq_true, Bool.and_eq_true, decide_eq_true_eq] at hr
    obtain ⟨⟨hb, he⟩, hr2⟩ := hr
    obtain ⟨q0, q1, q2, q3, q4⟩ := hunkB_parts hb
    obtain ⟨A, hA⟩ : ∃ A : Nat, x.at_ = A := ⟨x.at_.toNat, by omega⟩
    obtain ⟨G, hG⟩ : ∃ G : Nat, x.gone = G := ⟨x.gone.toNat, by omega⟩
    have ea : x.at_.toNat = A := by omega
    have eg : (x.at_ + x.gone).toNat = A + G := by omega
    rw [rowsM, ea, eg]
    have hgl : (seg l A (A + G)).length = G := by rw [seg_len]; omega
    have hpl : (seg l p A).length = A - p := by rw [seg_len]; omega
    have hne : seg l A (A + G) ≠ [] ∨ x.new ≠ [] := by
      simp only [nothing, Bool.and_eq_false_iff, decide_eq_false_iff_not] at q3
      rcases q3 with h | h
      · exact .inl (fun e => by rw [e] at hgl; simp at hgl; omega)
      · exact .inr (fun e => by rw [e] at h; simp at h)
    have ih := runs_rowsM (l := l) (q := q) r (A + G) (some x) hq ⟨x.at_ + x.gone, hr2, by omega, fun _ => by omega⟩
    have hx : (⟨(A : Int), ((seg l A (A + G)).length : Int), x.new⟩ : Hk) = x := Hk.ext_ hA.symm (by rw [hgl]; exact hG.symm) rfl
    have hmid : runsF (A : Int) none (kR 2 (seg l A (A + G)) ++ (kR 3 x.new ++ rowsM l q (A + G) r)) = x :: r := by
      rw [runs_one _ _ _ _ hne, hx, hgl, show (A : Int) + (G : Int) = ((A + G : Nat) : Int) by omega, ih]
      rfl
    simp only [List.append_assoc]
    cases cur with
    | none =>
      rw [runs_k1, hpl, show (p : Int) + ((A - p : Nat) : Int) = (A : Int) by omega, hmid]
      rfl
    | some h =>
      have hpe := hc (by simp)
      rw [runs_k1s _ _ _ _ (fun e => by rw [e] at hpl; simp at hpl; omega), hpl, show (p : Int) + ((A - p : Nat) : Int) = (A : Int) by omega, hmid]
      rfl
theorem lw_k1 (k : Int) (S : List ByteArray) (h : k ≠ 1) : lw k (kR 1 S) = S := by
  induction S with
  | nil => rfl
  | cons s S ih =>
    have e : kR 1 (s :: S) = ⟨1, s⟩ :: kR 1 S := rfl
    rw [e]; simp only [lw, ih]
    rw [if_neg (fun e => h e.symm)]
theorem lw_same (k : Int) (S : List ByteArray) : lw k (kR k S) = [] := by
  induction S with
  | nil => rfl
  | cons s S ih =>
    have e : kR k (s :: S) = ⟨k, s⟩ :: kR k S := rfl
    rw [e]; simp [lw, ih]
theorem lw_not (k j : Int) (S : List ByteArray) (h : j ≠ k) : lw k (kR j S) = S := by
  induction S with
  | nil => rfl
  | cons s S ih =>
    have e : kR j (s :: S) = ⟨j, s⟩ :: kR j S := rfl
    rw [e]; simp only [lw, ih]
    rw [if_neg h]
theorem lw_rowsM {l : List ByteArray} {q : Nat} : ∀ (hs : List Hk) (p : Nat), restOk q hs p → p ≤ q → q ≤ l.length → lw 3 (rowsM l q p hs) = seg l p q ∧ ((lw 2 (rowsM l q p hs)).length : Int) = q - p + moreH hs
  | [], p, _, hpq, hq => by
    rw [rowsM, lw_k1 3 _ (by omega), lw_k1 2 _ (by omega), seg_len]
    exact ⟨rfl, by simp only [moreH]; omega⟩
  | x :: r, p, h, hpq, hq => by
    obtain ⟨a, g, ea, eg, h1, h2, _, _, h3, _⟩ := rest_cons h
    have e1 : x.at_.toNat = a := by omega
    have e2 : (x.at_ + x.gone).toNat = a + g := by omega
    have ih := lw_rowsM (l := l) r (a + g) h3 (by omega) hq
    rw [rowsM, e1, e2]
    simp only [lw_append]
    rw [lw_k1 3 _ (by omega), lw_k1 2 _ (by omega), lw_not 3 2 _ (by omega), lw_same 2, lw_same 3, lw_not 2 3 _ (by omega), ih.1]
    refine ⟨?_, ?_⟩
    · rw [List.append_nil, seg_seg h1 (by omega), seg_seg (by omega) (by omega)]
    · simp only [List.length_append, List.length_nil, seg_len, moreH]
      have := ih.2
      omega
theorem groups_made {l : List ByteArray} {W : Nat} {hs : List Hk} (hg : goodH l.length hs = true) : ∀ (n i f : Nat), hs.length - i ≤ n → hs.length - i ≤ f →
    hunksF (groupsF l W f (moreH (hs.take i)) (hs.drop i)) = hs.drop i ∧ standsF l (moreH (hs.take i)) (groupsF l W f (moreH (hs.take i)) (hs.drop i)) = true ∧ farB l (groupsF l W f (moreH (hs.take i)) (hs.drop i)) = false := by
  intro n
  induction n with
  | zero =>
    intro i f hi hf
    rw [List.drop_eq_nil_of_le (by omega), groupsF_nil]
    exact ⟨rfl, rfl, rfl⟩
  | succ n ihn =>
    intro i f hi hf
    by_cases hil : hs.length ≤ i
    · rw [List.drop_eq_nil_of_le hil, groupsF_nil]
      exact ⟨rfl, rfl, rfl⟩
    · have hx : hs[i]? = some (hs[i]'(by omega)) := List.getElem?_eq_getElem (by omega)
      obtain ⟨k, f', y, _, hf', hk1, hkn, _, hy, hstep⟩ := group_step (l := l) (W := W) hx hf
      obtain ⟨r1, r2, r3, r4⟩ := group_rest (n := l.length) (W := W) hg rfl hx hk1 hy
      obtain ⟨F, hF⟩ : ∃ F, fromN W (hs[i]'(by omega)) = F := ⟨_, rfl⟩
      obtain ⟨E, hE⟩ : ∃ E, endN l.length W y = E := ⟨_, rfl⟩
      obtain ⟨H, hH⟩ : ∃ H, (hs.drop i).take k = H := ⟨_, rfl⟩
      rw [hF, hE, hH] at hstep
      rw [hE, hH] at r2
      rw [hF] at r2 r3
      rw [hE] at r3 r4
      have ih := ihn (i + k) f' (by omega) hf'
      have hm : moreH (hs.take (i + k)) = moreH (hs.take i) + moreH H := by rw [take_add', moreH_append, hH]
      have hlw := lw_rowsM (l := l) H F r2 r3 r4
      obtain ⟨e, he1, he2⟩ := r2
      have hru := runs_rowsM (l := l) (q := E) H F none r4 ⟨e, he1, he2, fun h => absurd rfl h⟩
      have hdt : H ++ hs.drop (i + k) = hs.drop i := by rw [← hH, ← List.drop_drop, List.take_append_drop]
      rw [hstep]
      refine ⟨?_, ?_, ?_⟩
      · rw [hunksF_cons, ih.1]
        unfold gpHunks
        dsimp only
        rw [hru]
        simp only [Option.toList, List.nil_append]
        exact hdt
      · have hl3 : (seg l F E).length = E - F := by rw [seg_len]; omega
        rw [standsF]
        dsimp only
        have hl2 := hlw.2
        rw [hlw.1, hl3, show ((F : Nat) : Int).toNat = F by omega, show F + (E - F) = E by omega]
        have hm2 : moreH (hs.take i) + (((lw 2 (rowsM l E F H)).length : Int) - ((E - F : Nat) : Int)) = moreH (hs.take (i + k)) := by rw [hm]; omega
        rw [hm2, ih.2.1]
        simp
      · have h3 := ih.2.2
        have hl3 : (seg l F E).length = E - F := by rw [seg_len]; omega
        unfold farB at h3 ⊢
        rw [List.any_cons, h3, Bool.or_false, decide_eq_false_iff_not]
        dsimp only
        rw [hlw.1, hl3]
        omega
theorem groups_apply {l : List ByteArray} {hs : List Hk} {W : Int} (h : (groupsOf l hs W).2 = true) (hg : goodG (groupsOf l hs W).1 = true) :
    applyG l (groupsOf l hs W).1 = (patchH l hs, 0, true) ∧ patchOk l hs = true := by
  by_cases hc : patchOk l hs = true ∧ 0 ≤ W ∧ W ≤ 20
  · have e : groupsOf l hs W = (groupsF l W.toNat hs.length 0 hs, true) := if_pos hc
    rw [e] at hg ⊢
    dsimp only at hg ⊢
    obtain ⟨p1, p2, p3⟩ := patchOk_parts hc.1
    obtain ⟨m1, m2, m3⟩ := groups_made (l := l) (W := W.toNat) p2 hs.length 0 hs.length (by omega) (by omega)
    simp only [List.take_zero, List.drop_zero, moreH] at m1 m2 m3
    unfold applyG
    rw [if_pos ⟨p1, hg⟩, if_pos (codeG_zero.2 ⟨m3, m2⟩), m1, if_pos hc.1]
    exact ⟨rfl, hc.1⟩
  · have e : groupsOf l hs W = ([], false) := if_neg hc
    rw [e] at h
    cases h
theorem rowsM_pos {l : List ByteArray} {q : Nat} {hs : List Hk} {p : Nat} (h : restOk q hs p) (hq : q ≤ l.length) (hne : hs ≠ []) : 1 ≤ (rowsM l q p hs).length := by
  cases hs with
  | nil => exact absurd rfl hne
  | cons x r =>
    obtain ⟨a, g, ea, eg, h1, h2, _, hn, _, _⟩ := rest_cons h
    simp only [nothing, Bool.and_eq_false_iff, decide_eq_false_iff_not] at hn
    rw [rowsM]
    simp only [List.length_append, kR_len, seg_len]
    omega
theorem groups_pos {l : List ByteArray} {W : Nat} {hs : List Hk} (hg : goodH l.length hs = true) : ∀ (n i f : Nat), hs.length - i ≤ n → hs.length - i ≤ f →
    (groupsF l W f (moreH (hs.take i)) (hs.drop i)).length ≤ hs.length - i ∧ ∀ x ∈ groupsF l W f (moreH (hs.take i)) (hs.drop i), 1 ≤ x.rows.length := by
  intro n
  induction n with
  | zero =>
    intro i f hi hf
    rw [List.drop_eq_nil_of_le (by omega), groupsF_nil]
    exact ⟨by simp, fun x hx => by simp at hx⟩
  | succ n ihn =>
    intro i f hi hf
    by_cases hil : hs.length ≤ i
    · rw [List.drop_eq_nil_of_le hil, groupsF_nil]
      exact ⟨by simp, fun x hx => by simp at hx⟩
    · have hx : hs[i]? = some (hs[i]'(by omega)) := List.getElem?_eq_getElem (by omega)
      obtain ⟨k, f', y, _, hf', hk1, hkn, _, hy, hstep⟩ := group_step (l := l) (W := W) hx hf
      obtain ⟨r1, r2, r3, r4⟩ := group_rest (n := l.length) (W := W) hg rfl hx hk1 hy
      have ih := ihn (i + k) f' (by omega) hf'
      rw [hstep]
      refine ⟨by rw [List.length_cons]; have := ih.1; omega, fun z hz => ?_⟩
      rcases List.mem_cons.1 hz with rfl | hz
      · refine rowsM_pos r2 r4 ?_
        intro e
        have := congrArg List.length e
        simp at this
        omega
      · exact ih.2 z hz
theorem groupsOf_pos (l : List ByteArray) (hs : List Hk) (W : Int) : (groupsOf l hs W).1.length ≤ hs.length ∧ ∀ x ∈ (groupsOf l hs W).1, 1 ≤ x.rows.length := by
  by_cases hc : patchOk l hs = true ∧ 0 ≤ W ∧ W ≤ 20
  · have e : groupsOf l hs W = (groupsF l W.toNat hs.length 0 hs, true) := if_pos hc
    rw [e]
    have h := groups_pos (l := l) (W := W.toNat) (patchOk_parts hc.1).2.1 hs.length 0 hs.length (by omega) (by omega)
    simp only [List.take_zero, List.drop_zero, moreH] at h
    exact ⟨by have := h.1; dsimp only; omega, h.2⟩
  · have e : groupsOf l hs W = ([], false) := if_neg hc
    rw [e]
    exact ⟨by simp, fun x hx => by simp at hx⟩

end Go.Proofs.YtkamenidgkjodaaGreatDoor.M
