/-
  Plain facts on steps made of hunks and hunks made of steps: no Go, no program.
-/
import Derived.Test.YtnimaadjmejmpaaDoorSBase2
import Derived.Test.YtnimaadjmejmpaaDoorHBase3
set_option linter.unusedSimpArgs false
set_option linter.unusedVariables false
namespace Go.Proofs.YtnimaadjmejmpaaDoor.M
open Go

/-- The number of the first of n lines at a place; of none that of the one behind which they are. -/
def numI (a : Int) (n : Nat) : Int := if n = 0 then a else a + 1
/-- The step of one hunk. -/
def stepOf (l : List ByteArray) (more : Int) (x : Hk) : Sp := ⟨numI x.at_ x.gone.toNat, x.at_ + x.gone, oldOf l x, numI (x.at_ + more) x.new.length, x.at_ + more + x.new.length, x.new⟩
def normFrom (l : List ByteArray) : Int → List Hk → List Sp
  | _, [] => []
  | more, x :: hs => stepOf l more x :: normFrom l (more + (x.new.length - x.gone)) hs
def normH (l : List ByteArray) (hs : List Hk) : List Sp := normFrom l 0 hs
def normOf (l : List ByteArray) (hs : List Hk) : List Sp × Bool := if patchOk l hs = true then (normH l hs, true) else ([], false)
theorem norm_step {l : List ByteArray} {hs : List Hk} {more : Int} {j : Nat} {x : Hk} (h : hs[j]? = some x) : normFrom l more (hs.drop j) = stepOf l more x :: normFrom l (more + (x.new.length - x.gone)) (hs.drop (j + 1)) := by
  rw [drop_at h, normFrom]
theorem norm_end {l : List ByteArray} {hs : List Hk} {more : Int} {j : Nat} (h : hs.length ≤ j) : normFrom l more (hs.drop j) = [] := by
  rw [List.drop_eq_nil_of_le h]; rfl
theorem norm_len (l : List ByteArray) : ∀ (hs : List Hk) (more : Int), (normFrom l more hs).length = hs.length
  | [], _ => rfl
  | x :: hs, more => by simp [normFrom, norm_len l hs]
theorem norm_mem {l : List ByteArray} {y : Sp} : ∀ {hs : List Hk} {more : Int}, y ∈ normFrom l more hs → ∃ x ∈ hs, ∃ m, y = stepOf l m x
  | [], _, h => by simp [normFrom] at h
  | x :: hs, more, h => by
    rcases List.mem_cons.1 h with rfl | h
    · exact ⟨x, by simp, _, rfl⟩
    · obtain ⟨z, hz, m, e⟩ := norm_mem h
      exact ⟨z, by simp [hz], m, e⟩
theorem totalP_le {l : List Sp} {b : Nat} (h : ∀ x ∈ l, bulk x ≤ b) : totalP l ≤ l.length * b := by
  induction l with
  | nil => simp [totalP]
  | cons s l ih =>
    have h1 := h s (by simp)
    have h2 := ih (fun t ht => h t (by simp [ht]))
    simp only [totalP, List.length_cons, Nat.add_mul, Nat.one_mul]
    omega
theorem normOf_len (l : List ByteArray) (hs : List Hk) : (normOf l hs).1.length + totalP (normOf l hs).1 ≤ 60000 := by
  unfold normOf
  split
  · next h =>
    obtain ⟨h1, h2, h3⟩ := patchOk_parts h
    have h4 : (normH l hs).length ≤ 20 := by unfold normH; rw [norm_len]; exact (goodH_parts h2).2.2.1
    have h5 : totalP (normH l hs) ≤ (normH l hs).length * 2480 := totalP_le (fun y hy => by
      obtain ⟨x, hx, m, rfl⟩ := norm_mem hy
      have q1 := lines_total (linesB_seg (goodB_lines h1) x.at_.toNat (x.at_ + x.gone).toNat)
      have q2 := lines_total (hunkB_parts (rise_mem (goodH_parts h2).2.2.2 hx)).2.2.2.2
      unfold bulk stepOf oldOf
      dsimp only
      omega)
    have h6 : (normH l hs).length * 2480 ≤ 20 * 2480 := Nat.mul_le_mul_right _ h4
    dsimp only
    omega
  · simp [totalP]
theorem normOf_ok (l : List ByteArray) (hs : List Hk) : (normOf l hs).2 = patchOk l hs := by
  unfold normOf
  split
  · next h => rw [h]
  · next h => simp at h; rw [h]

/-- The text of steps, and whether there is one. -/
def textP (p : List Sp) : List UInt8 × Bool := if stepsB p = true ∧ (stepsT p).length ≤ 3000 then (stepsT p, true) else ([], false)
theorem textP_len (p : List Sp) : (textP p).1.length ≤ 3000 := by unfold textP; split <;> simp_all

/-! Hunks made of steps. -/

def baseI (a : Int) (l : List ByteArray) : Int := if l.length = 0 then a else a - 1
def hunkP (x : Sp) : Hk := ⟨baseI x.fr x.old, x.old.length, x.new⟩
def otherB (l : List ByteArray) : Int → List Sp → Bool
  | _, [] => false
  | more, x :: p => !eqT (oldOf l (hunkP x)) x.old || decide (baseI x.at_ x.new ≠ (hunkP x).at_ + more) || otherB l (more + (x.new.length - x.old.length)) p
def hunksOk (l : List ByteArray) (p : List Sp) : Bool := goodB l && stepsB p
/-- StepsHunks' answers. -/
def hunksC (l : List ByteArray) (p : List Sp) : List Hk × Int :=
  if goodH l.length (p.map hunkP) = true then (if otherB l 0 p = true then ([], 2) else (p.map hunkP, 0)) else ([], 3)
def hunksOf (l : List ByteArray) (p : List Sp) : List Hk × Int × Bool := if hunksOk l p = true then ((hunksC l p).1, (hunksC l p).2, true) else ([], 0, false)
theorem other_step {l : List ByteArray} {p : List Sp} {more : Int} {j : Nat} {x : Sp} (h : p[j]? = some x) : otherB l more (p.drop j) = (!eqT (oldOf l (hunkP x)) x.old || decide (baseI x.at_ x.new ≠ (hunkP x).at_ + more) || otherB l (more + (x.new.length - x.old.length)) (p.drop (j + 1))) := by
  rw [drop_at h, otherB]
theorem other_end {l : List ByteArray} {p : List Sp} {more : Int} {j : Nat} (h : p.length ≤ j) : otherB l more (p.drop j) = false := by
  rw [List.drop_eq_nil_of_le h]; rfl

theorem stepB_parts {x : Sp} (h : stepB x = true) : sideB x.fr x.to_ x.old = true ∧ sideB x.at_ x.en x.new = true ∧ 0 < x.old.length + x.new.length := by
  unfold stepB at h
  simp only [Bool.and_eq_true, decide_eq_true_eq] at h
  exact ⟨h.1.1, h.1.2, h.2⟩
/-- A good step ends where its To says. -/
theorem hunkP_end {x : Sp} (h : stepB x = true) : (hunkP x).at_ + (hunkP x).gone = x.to_ ∧ 0 ≤ (hunkP x).at_ ∧ x.to_ ≤ 1000 := by
  obtain ⟨h1, _, _⟩ := stepB_parts h
  obtain ⟨A, B, e1, e2, q1, q2, _, z, nz⟩ := side_le h1
  unfold hunkP baseI
  dsimp only
  by_cases e : x.old.length = 0
  · rw [if_pos e]; have := z e; omega
  · rw [if_neg e]; have := nz e; omega
theorem rise_far {many : Int} {p : List Sp} (hp : p.all stepB = true) {x : Sp} (hx : x ∈ p) (h : many < x.to_) : goodH many (p.map hunkP) = false := by
  rw [Bool.eq_false_iff]
  intro hg
  have h1 := goodH_mem hg (List.mem_map_of_mem hx)
  have h2 := (hunkP_end (List.all_eq_true.1 hp x hx)).1
  omega
/-- Where a hunk begins behind those ahead of it. -/
theorem place_ahead {many e k : Int} : ∀ {hs : List Hk} {more : Int}, riseB many e hs = true → (∀ x ∈ hs, x.at_ + x.gone ≤ k) → placeFrom k more hs = some (k + (hs.foldl (fun (m : Int) (x : Hk) => m + ((x.new.length : Int) - x.gone)) more))
  | [], more, _, _ => rfl
  | x :: hs, more, hr, h => by
    simp only [riseB, Bool.and_eq_true] at hr
    rw [placeFrom, if_pos (h x (by simp)), place_ahead hr.2 (fun y hy => h y (by simp [hy]))]
    rfl
theorem rise_take {many : Int} : ∀ {hs : List Hk} {e : Int} (i : Nat), riseB many e hs = true → riseB many e (hs.take i) = true
  | [], e, i, h => by simpa using h
  | x :: hs, e, 0, h => rfl
  | x :: hs, e, i + 1, h => by
    simp only [riseB, Bool.and_eq_true, List.take_succ_cons] at h ⊢
    exact ⟨h.1, rise_take i h.2⟩
theorem goodH_take {many : Int} {hs : List Hk} (i : Nat) (h : goodH many hs = true) : goodH many (hs.take i) = true := by
  obtain ⟨h1, h2, h3, h4⟩ := goodH_parts h
  simp only [goodH, Bool.and_eq_true, decide_eq_true_eq]
  exact ⟨⟨⟨h1, h2⟩, by simp; omega⟩, rise_take i h4⟩
theorem rise_before {many : Int} : ∀ {hs : List Hk} {e : Int} {i : Nat} {x : Hk}, riseB many e hs = true → hs[i]? = some x → e < x.at_ ∧ ∀ y ∈ hs.take i, y.at_ + y.gone ≤ x.at_
  | [], e, i, x, _, hi => by simp at hi
  | y :: hs, e, 0, x, h, hi => by
    simp at hi
    subst hi
    simp only [riseB, Bool.and_eq_true, decide_eq_true_eq] at h
    exact ⟨h.1.2, fun z hz => by simp at hz⟩
  | y :: hs, e, i + 1, x, h, hi => by
    simp only [riseB, Bool.and_eq_true, decide_eq_true_eq] at h
    obtain ⟨h1, h2⟩ := rise_before h.2 (by simpa using hi)
    have h3 := hunkB_parts h.1.1
    refine ⟨by omega, fun z hz => ?_⟩
    rw [List.take_succ_cons] at hz
    rcases List.mem_cons.1 hz with rfl | hz
    · omega
    · exact h2 z hz
/-- How many lines more there are behind the first steps. -/
def moreP (p : List Sp) (i : Nat) : Int := (p.take i).foldl (fun m x => m + ((x.new.length : Int) - x.old.length)) 0
theorem moreP_zero (p : List Sp) : moreP p 0 = 0 := by simp [moreP]
theorem moreP_succ {p : List Sp} {i : Nat} {x : Sp} (h : p[i]? = some x) : moreP p (i + 1) = moreP p i + ((x.new.length : Int) - x.old.length) := by
  unfold moreP
  rw [take_snoc h, List.foldl_append]
  rfl
theorem fold_map (p : List Sp) : ∀ m : Int, (p.map hunkP).foldl (fun m x => m + ((x.new.length : Int) - x.gone)) m = p.foldl (fun m x => m + ((x.new.length : Int) - x.old.length)) m := by
  induction p with
  | nil => intro m; rfl
  | cons x p ih => intro m; rw [List.map_cons, List.foldl_cons, List.foldl_cons, ih]; rfl
/-- PlaceOf of the hunks ahead, at the place of a hunk, when all are good. -/
theorem place_at {many : Int} {p : List Sp} {i : Nat} {x : Sp} (hg : goodH many (p.map hunkP) = true) (hx : p[i]? = some x) :
    placeOf ((p.map hunkP).take i) many (hunkP x).at_ = ((hunkP x).at_ + moreP p i, true) := by
  have hx2 : (p.map hunkP)[i]? = some (hunkP x) := by simp [hx]
  obtain ⟨h1, h2, h3, h4⟩ := goodH_parts hg
  obtain ⟨b1, b2⟩ := rise_before h4 hx2
  have hm := goodH_mem hg (List.mem_of_getElem? hx2)
  have hp := place_ahead (k := (hunkP x).at_) (more := 0) (rise_take i h4) b2
  rw [← List.map_take, fold_map] at hp
  have hv : placeN ((p.map hunkP).take i) (hunkP x).at_ = (hunkP x).at_ + moreP p i := by
    unfold placeN
    rw [← List.map_take, hp]
    rfl
  have hn : 0 ≤ (hunkP x).at_ + moreP p i := place_nonneg (many := many) (e := -1) hm.1 (rise_take i h4) (more := 0) (by omega) (by omega) (by rw [← List.map_take, hp]; rfl)
  unfold placeOf
  rw [hv, if_pos ⟨goodH_take i hg, hm.1, by omega, hn⟩]

/-- ApplySteps' answers. -/
def applyOf (l : List ByteArray) (p : List Sp) : List ByteArray × Int × Bool :=
  if (hunksOf l p).2.2 = true ∧ (hunksOf l p).2.1 = 0 then
    (if (patchOf l (hunksOf l p).1).2 = true then ((patchOf l (hunksOf l p).1).1, 0, true) else ([], 2, true))
  else ([], (hunksOf l p).2.1, (hunksOf l p).2.2)

end Go.Proofs.YtnimaadjmejmpaaDoor.M
