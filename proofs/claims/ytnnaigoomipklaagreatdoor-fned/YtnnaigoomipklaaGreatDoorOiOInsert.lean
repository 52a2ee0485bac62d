/-
  slices.Insert at texts: into a slice of the call's own, of texts that lie in another block.
  slices.Insert at texts, walked.
-/
import Derived.Test.YtnnaigoomipklaaGreatDoorOiOSplice
import Derived.Test.YtnnaigoomipklaaGreatDoorOiPart
import Derived.Test.YtnnaigoomipklaaGreatDoorOiURows
import Derived.Deep.RegionLaw
set_option linter.unusedSimpArgs false
set_option linter.unusedVariables false
namespace Go.Proofs.YtnnaigoomipklaaGreatDoor.M
open Go

theorem splice_in1 {α : Type} (cur X R : List α) {i k : Nat} (hR : i + R.length = k) (hfit : k + X.length ≤ cur.length) : (splice (splice cur k X) i R).take (k + X.length) = cur.take i ++ (R ++ X) := by
  have e1 : (splice cur k X).take i = cur.take i := by
    unfold splice
    rw [List.take_append_of_le_length (by simp; omega), List.take_take, Nat.min_eq_left (by omega)]
  have e2 : (splice cur k X).drop (i + R.length) = X ++ cur.drop (k + X.length) := by
    unfold splice
    rw [hR, List.drop_append, List.drop_of_length_le (by simp; omega)]
    simp [Nat.min_eq_left (show k ≤ cur.length by omega)]
  have e3 : splice (splice cur k X) i R = (cur.take i ++ (R ++ X)) ++ cur.drop (k + X.length) := by
    rw [splice, e1, e2]; simp
  rw [e3, List.take_append_of_le_length (by simp; omega), List.take_of_length_le (by simp; omega)]
theorem splice_in2 {α : Type} (cur X R : List α) {i k : Nat} (hR : i + R.length = k) (hfit : k + X.length ≤ cur.length) : (splice (splice cur i R) k X).take (k + X.length) = cur.take i ++ (R ++ X) := by
  have e1 : (splice cur i R).take k = cur.take i ++ R := by
    unfold splice
    rw [← List.append_assoc, List.take_append_of_le_length (by simp; omega), List.take_of_length_le (by simp; omega)]
  have e3 : splice (splice cur i R) k X = (cur.take i ++ (R ++ X)) ++ (splice cur i R).drop (k + X.length) := by
    have hs : ∀ (Y : List α) (o : Nat) (c : List α), splice Y o c = Y.take o ++ (c ++ Y.drop (o + c.length)) := fun _ _ _ => rfl
    rw [hs (splice cur i R) k X, e1]
    simp
  rw [e3, List.take_append_of_le_length (by simp; omega), List.take_of_length_le (by simp; omega)]
theorem splice_in0 {α : Type} (cur R : List α) {i k : Nat} (hR : i + R.length = k) (hfit : k ≤ cur.length) : (splice cur i R).take k = cur.take i ++ R := by
  unfold splice
  rw [← List.append_assoc, List.take_append_of_le_length (by simp; omega), List.take_of_length_le (by simp; omega)]
theorem splice_take {α : Type} (L cs : List α) {off q : Nat} (h : q ≤ off) (h2 : off ≤ L.length) : (splice L off cs).take q = L.take q := by
  unfold splice
  rw [List.take_append_of_le_length (by simp; omega), List.take_take, Nat.min_eq_left h]
theorem splice_past {α : Type} (L cs : List α) {off p : Nat} (h : off + cs.length ≤ p) (hl : off + cs.length ≤ L.length) : (splice L off cs)[p]? = L[p]? := by
  unfold splice
  rw [← List.append_assoc, List.getElem?_append_right (by simp; omega), List.getElem?_drop]
  congr 1
  simp
  omega
theorem take_of_take {α : Type} {L xs : List α} {n i : Nat} (h : L.take n = xs) (hi : i ≤ n) : L.take i = xs.take i := by
  rw [← h, List.take_take, Nat.min_eq_left hi]

end Go.Proofs.YtnnaigoomipklaaGreatDoor.M

namespace Go.Proofs.YtnnaigoomipklaaGreatDoor
open Go.RowKit Go.ChangeShapes Go.WideShapes M

theorem minL {a b c : Nat} (h : a = b) (h2 : b ≤ c) : a = Nat.min b c := by show a = min b c; omega
theorem minR {a b c : Nat} (h : a = c) (h2 : c ≤ b) : a = Nat.min b c := by show a = min b c; omega
/-- Texts as values. -/
def tv (l : List ByteArray) : List Value := l.map Value.string
theorem tv_len (l : List ByteArray) : (tv l).length = l.length := by simp [tv]
theorem tv_app (a b : List ByteArray) : tv (a ++ b) = tv a ++ tv b := by simp [tv]
theorem tv_take (l : List ByteArray) (k : Nat) : tv (l.take k) = (tv l).take k := by simp [tv]
theorem tv_drop (l : List ByteArray) (k : Nat) : tv (l.drop k) = (tv l).drop k := by simp [tv]
theorem tv_one (l : List ByteArray) : ∀ v ∈ tv l, v.oneCell' = true := fun v hv => by
  unfold tv at hv
  obtain ⟨s, _, rfl⟩ := List.mem_map.1 hv
  rfl

theorem tail_src {cur : List Value} {l : List ByteArray} {n i : Nat} (h : cur.take n = tv l) : ∀ (j : Nat) v, (tv (l.drop i))[j]? = some v → cur[i + j]? = some v := fun j v hv => by
  rw [tv_drop, ← h, List.getElem?_drop, List.getElem?_take] at hv
  split at hv
  · exact hv
  · cases hv
theorem ownV_of_row {w : World} {g base q cap : Nat} {cur : List Value} {l : List ByteArray} (hg : RowV w g cur) (hb : base ≤ g) (hl : l.length = q) (hq : q ≤ cap) (hc : cap ≤ maxLen) (hcl : cur.length = cap) (ht : cur.take q = tv l) (hs : ∀ s ∈ l, s.size ≤ maxLen) : OwnV w base (.slice (some ⟨g, 0, none⟩) q cap) l := by
  subst hl
  refine ⟨⟨by simp, .inr ⟨g, cap, _, rfl, hb, hg, hq, hc, by simpa using hcl, ?_⟩⟩, hs⟩
  rw [Nat.mul_one]
  exact ht
theorem row_of_ownV {w : World} {g base n cap : Nat} {l : List ByteArray} (h : OwnV w base (.slice (some ⟨g, 0, none⟩) n cap) l) : ∃ cur : List Value, RowV w g cur ∧ base ≤ g ∧ l.length = n ∧ n ≤ cap ∧ cap ≤ maxLen ∧ cur.length = cap ∧ cur.take n = tv l := by
  have hl := h.strs.len
  rcases h.row.2 with ⟨hv, _⟩ | ⟨g', cap', cur, hv, hb, hg, h1, h2, h3, h4⟩
  · cases hv
  · injection hv with e1 e2 e3
    injection e1 with e1
    injection e1 with e1
    subst e1 e3
    refine ⟨cur.toList, by unfold RowV; simpa using hg, hb, hl, by omega, h2, by simpa using h3, ?_⟩
    rw [← e2] at h4
    rw [Nat.mul_one] at h4
    exact h4
theorem strs_src {w : World} {B : Option Addr} {m : Nat} {r : List ByteArray} (h : Strs w B m r) : 0 < m → ∃ ad, B = some ad ∧ ∀ j v, (tv r)[j]? = some v → w.cell? (ad.add j) = some v := fun hm => by
  have hr0 : 0 < r.length := by rw [h.len]; exact hm
  obtain ⟨b, off, e, _⟩ := h.cell 0 _ (List.getElem?_eq_getElem hr0)
  refine ⟨_, e, fun j v hv => ?_⟩
  unfold tv at hv
  rw [List.getElem?_map] at hv
  cases hj : r[j]? with
  | none => rw [hj] at hv; cases hv
  | some t =>
    rw [hj] at hv
    injection hv with hv
    subst hv
    obtain ⟨b', off', e', hc⟩ := h.cell j t hj
    rw [e] at e'
    injection e' with e'
    injection e' with e1 e2
    subst e1 e2
    rw [add_at]
    exact hc
theorem row_src {w : World} {g off : Nat} {cur : List Value} (h : RowV w g cur) (cs : List Value) (hc : ∀ (j : Nat) v, cs[j]? = some v → cur[off + j]? = some v) : ∀ (j : Nat) v, cs[j]? = some v → w.cell? ((⟨g, off, none⟩ : Addr).add j) = some v := fun j v hj => by
  rw [add_at]
  exact h.cell (hc j v hj)

theorem cell_wrote {S : Nat → Prop} {w w' : World} (hw : Wrote S w w') {p : Addr} {v : Value} (hn : ¬ S p.block) (h : w.cell? p = some v) : w'.cell? p = some v := by
  have e := hw.block p.block (cell_lt h) hn
  unfold World.cell? at h ⊢
  rw [e]
  exact h
theorem block_add (a : Addr) (j : Nat) : (a.add j).block = a.block := by unfold Addr.add; split <;> rfl
theorem src_wrote {S : Nat → Prop} {w w' : World} (hw : Wrote S w w') {ad : Addr} {cs : List Value} (hn : ¬ S ad.block) (h : ∀ (j : Nat) v, cs[j]? = some v → w.cell? (ad.add j) = some v) : ∀ (j : Nat) v, cs[j]? = some v → w'.cell? (ad.add j) = some v :=
  fun j v hv => cell_wrote hw (by rw [block_add]; exact hn) (h j v hv)

theorem cutA_some {g cap k : Nat} (h : k < cap) : cutA (some ⟨g, 0, none⟩) cap k = some ⟨g, k, none⟩ := by
  unfold cutA
  rw [if_neg (by omega)]
  simp only [Option.map_some, add_g]
theorem str_size (w : World) : (sizeOf 9).run Tryz.prog w = .ok 1 w := by
  obtain ⟨i, q1, q2, q3, q4⟩ := info_parts str_info
  simp [sizeOf, typeInfo, q1, q3]
/-- Two slices in two blocks do not lie over one another. -/
theorem run_overlaps_w (w : World) (a b : Addr) (la ca lb cb : Nat) (hne : a.block ≠ b.block) {ca' cb' : List Value} (ha : RowV w a.block ca') (hb : RowV w b.block cb') (hb0 : cb' ≠ []) (hs : a.spot = none) :
    (callFunc 231 #[.slice (some a) la ca, .slice (some b) lb cb]).run Tryz.prog w = .ok (.value (.bool false)) w := by
  obtain ⟨ab, ao, asp⟩ := a
  dsimp only at hs ha hne
  subst hs
  rw [run_callFunc_extern Tryz.func231 (by kernel_rfl) (by kernel_rfl) (by kernel_rfl) (e := Extern.SlicesOverlaps.overlaps #[33, 33] #[4]) (by kernel_rfl),
    Lib.run_overlaps_apart w 33 4 9 Tryz.underlying33 1 str_size ⟨ab, ao, none⟩ b la ca lb cb hne _ _ _ _ ha.shape hb.shape (by have := List.length_pos_iff.2 hb0; omega) ha.free ha.free]
  rfl

end Go.Proofs.YtnnaigoomipklaaGreatDoor

namespace Go.Proofs.YtnnaigoomipklaaGreatDoor
open Go.RowKit Go.ChangeShapes Go.WideShapes M

/-- What comes of texts put into a slice of the call's own. -/
structure Put (w w' : World) (base : Nat) (v v' : Value) (l : List ByteArray) : Prop where
  own : OwnV w' base v' l
  wrote : Wrote (fun k => v.ownBlock = some k) w w'
  place : ∀ k, v'.ownBlock = some k → v.ownBlock = some k ∨ w.heap.size ≤ k

set_option maxHeartbeats 2000000 in
set_option maxRecDepth 100000 in
theorem insertS_any (base : Nat) (A : Option Addr) (n cap : Nat) (l : List ByteArray) (B : Option Addr) (m c : Nat) (r : List ByteArray) (i : Nat) (w : World) (ho : OwnV w base (.slice A n cap) l) (hr : Strs w B m r) (hmc : m ≤ c) (hpl : PlainAt w B)
    (hne : ∀ a b, A = some a → B = some b → a.block ≠ b.block) (hin : i ≤ n) (hn : n ≤ 1048576) (hm : m ≤ 1048576) (hbase : base ≤ w.heap.size) :
    Calls Tryz.prog 230 #[.slice A n cap, .int .i64 (i : Int), .slice B m c] w fun e w' => ∃ v', e = .returned v' ∧ Put w w' base (.slice A n cap) v' (l.take i ++ (r ++ l.drop i)) := by
  have HL := Lib.hid ho.strs.len
  have HR := Lib.hid hr.len
  obtain ⟨A0, cap0, e0, hnc, hcm⟩ := ho.form HL.out
  injection e0 with e1 e2 e3
  subst e1 e3
  clear e2
  have hcut := cut_lo_strs A n cap i hin hnc
  by_cases hm0 : m = 0
  · have hq : ((m : Int) == 0) = true := by simp [hm0]
    have hf := Lib.hid (show l.take i ++ (r ++ l.drop i) = l by
      have : r = [] := List.eq_nil_of_length_eq_zero (by rw [HR.out, hm0])
      rw [this]; simp)
    clear hm0
    go_enter Tryz.func230, Tryz.ntmps230
    go_wp2
    go_ret
    exact ⟨_, rfl, by rw [hf.out]; exact ho, Wrote.refl _ _, fun k e => .inl e⟩
  have hm1 : ((m : Int) == 0) = false := by simp; omega
  by_cases hi : i = n
  · have hq : ((i : Int) == (n : Int)) = true := by simp [hi]
    have hf := Lib.hid (show l.take i ++ (r ++ l.drop i) = l ++ r by
      have hl := HL.out
      rw [List.take_of_length_le (by omega), List.drop_of_length_le (by omega), List.append_nil])
    clear hi
    go_enter Tryz.func230, Tryz.ntmps230
    go_wp2_with (at_builtin; refine app_strs (.tmp 23) (.tmp 24) base (.slice A n cap) l ho B m c r hr (by rw [HL.out]; omega) hbase rfl rfl rfl rfl ?_; intro v3 w3 o3 g3 p3)
    go_ret
    refine ⟨v3, rfl, by rw [hf.out]; exact o3, Wrote.of_grown g3 (fun k e => e), fun k e => ?_⟩
    rcases p3 with p3 | p3
    · exact .inl (p3 ▸ e)
    · rw [p3] at e; injection e with e; exact .inr (by omega)
  have hq : ((i : Int) == (n : Int)) = false := by simp; omega
  have hlt : i < n := by omega
  obtain ⟨g, rfl, hgb, hgl, _⟩ := ho.at_ hlt
  obtain ⟨cur, HROW, hgb2, _, _, _, hcl, htk⟩ := row_of_ownV ho
  obtain ⟨ad, rfl, hsrc⟩ := strs_src hr (by omega)
  obtain ⟨q, HQ⟩ : ∃ q : Nat, Hid (q = n + m) := ⟨_, rfl⟩
  have hq1 : IntKind.i64.wrap ((n : Int) + (m : Int)) = (q : Int) := by rw [HQ.out, IntKind.wrap_i64]; omega
  obtain ⟨k, HK⟩ : ∃ k : Nat, Hid (k = i + m) := ⟨_, rfl⟩
  have hk1 : IntKind.i64.wrap ((i : Int) + (m : Int)) = (k : Int) := by rw [HK.out, IntKind.wrap_i64]; omega
  have HTK := Lib.hid htk
  have HCL := Lib.hid hcl
  have HRW := Lib.hid HROW
  have HNE := Lib.hid (hne _ _ rfl rfl)
  have HSRC := Lib.hid hsrc
  have hmp := Lib.hid (show 0 < m by omega)
  clear hi hm0 htk hcl HROW hne hsrc
  by_cases hroom : cap < q
  · -- no room
    obtain ⟨d, HD⟩ : ∃ d : Nat, Hid (d = q - i) := ⟨_, rfl⟩
    have hd1 : IntKind.i64.wrap ((q : Int) - (i : Int)) = (d : Int) := by have := HQ.out; rw [HD.out, IntKind.wrap_i64]; omega
    have hcut2 := cut_hi_w (some ⟨g, 0, none⟩) n cap i (by omega)
    obtain ⟨N, HN⟩ : ∃ N, Hid (w.heap.size = N) := ⟨_, rfl⟩
    go_enter Tryz.func230, Tryz.ntmps230
    go_wp2_with (first
      | (at_builtin; refine wpList_blanks_w (.tmp 34) (.tmp 39) i cap d q cur g HRW.out (by rw [HCL.out]; omega) (by have := HD.out; have := HQ.out; omega) (by have := HD.out; have := HQ.out; omega) hroom (by have := HQ.out; omega) rfl rfl rfl rfl ?_
         intro w1 G Z hr1 hzl hqG hGm b1
         rw [HN.out] at hr1 ⊢
         have hcut3 := cut_lo_strs (some ⟨N, 0, none⟩) q G i (by have := HQ.out; omega) hqG
         have hcut4 := cut_lo_strs (some ⟨N, 0, none⟩) q G k (by have := HQ.out; have := HK.out; omega) hqG)
      | (refine wpList_copy_w (.tmp 43) (.tmp 44) (cutA (some ⟨N, 0, none⟩) G i) (some ad) (q - i) (G - i) m c N i (cur.take i ++ Z) (tv r) hr1 (minL (by rw [tv_len, HR.out]) (by have := HQ.out; omega)) (fun _ => ⟨cutA_some (by have := HQ.out; omega), ad, rfl, fun j v hv => cell_keep b1 (HSRC.out j v hv)⟩) (by rw [tv_len, HR.out]; have := HCL.out; have := HQ.out; simp; omega) (tv_one r) rfl rfl rfl rfl ?_
         intro w2 hr2 g2))
    have e1 : (tv (l.drop i)).length = Nat.min (n - i) (q - k) := minL (by rw [tv_len, List.length_drop, HL.out]) (by have := HQ.out; have := HK.out; omega)
    have e2 : RowV w2.drew N (splice (cur.take i ++ Z) i (tv r)) := hr2
    have e6 : RowV w2 g cur := RowV.wrote (S := fun k => k = N) (HRW.out.below b1) g2 (by show ¬ g = N; have := HN.out; omega)
    have e5 : RowV w2.drew g cur := e6
    clear e6
    have e3 : 0 < (tv (l.drop i)).length → cutA (some ⟨N, 0, none⟩) G k = some ⟨N, k, none⟩ ∧ ∃ ad, cutA (some ⟨g, 0, none⟩) cap i = some ad ∧ ∀ j v, (tv (l.drop i))[j]? = some v → w2.drew.cell? (ad.add j) = some v := fun _ => ⟨cutA_some (by have := HQ.out; have := HK.out; omega), _, cutA_some (by omega), row_src e5 _ (tail_src HTK.out)⟩
    have e4 : k + (tv (l.drop i)).length ≤ (splice (cur.take i ++ Z) i (tv r)).length := by
      rw [length_splice _ _ _ (by rw [tv_len, HR.out]; have := HCL.out; have := HQ.out; simp; omega), tv_len, List.length_drop, HL.out]
      have := HCL.out; have := HQ.out; have := HK.out
      simp; omega
    have E1 := Lib.hid e1
    have E2 := Lib.hid e2
    have E3 := Lib.hid e3
    have E4 := Lib.hid e4
    clear e1 e2 e3 e4 e5
    go_region_law (refine step_copy_w (.tmp 50) (.tmp 53) (cutA (some ⟨N, 0, none⟩) G k) (cutA (some ⟨g, 0, none⟩) cap i) (q - k) (G - k) (n - i) (cap - i) N k (splice (cur.take i ++ Z) i (tv r)) (tv (l.drop i)) E2.out E1.out E3.out E4.out (tv_one _) (by rfl) (by rfl) (by simp [Act.eval, Act.put]) (by simp [Act.eval, Act.put]) ?_; intro w3 hr3 g3)
    go_wp2
    go_ret
    have hsmall : ∀ s ∈ l.take i ++ (r ++ l.drop i), s.size ≤ maxLen := fun s hs => by
      rcases List.mem_append.1 hs with h | h
      · exact ho.small s (List.mem_of_mem_take h)
      · rcases List.mem_append.1 h with h | h
        · exact hr.small s h
        · exact ho.small s (List.mem_of_mem_drop h)
    refine ⟨_, rfl, ownV_of_row hr3 (by have := HN.out; omega) ?_ hqG hGm ?_ ?_ hsmall, ?_, fun k e => ?_⟩
    · have h1 := HL.out; have h2 := HR.out; have h3 := HQ.out
      simp; omega
    · rw [length_splice _ _ _ E4.out, length_splice _ _ _ (by rw [tv_len, HR.out]; have := HCL.out; have := HQ.out; simp; omega), List.length_append, List.length_take, HCL.out, Nat.min_eq_left (by omega)]
      exact hzl
    · have h1 := splice_in2 (cur.take i ++ Z) (tv (l.drop i)) (tv r) (i := i) (k := k) (by rw [tv_len, HR.out, HK.out]) (by have := E4.out; rwa [length_splice _ _ _ (by rw [tv_len, HR.out]; have := HCL.out; have := HQ.out; simp; omega)] at this)
      have h2 : k + (tv (l.drop i)).length = q := by rw [tv_len, List.length_drop, HL.out]; have := HQ.out; have := HK.out; omega
      rw [h2] at h1
      rw [h1, tv_app, tv_app, tv_take, ← take_of_take HTK.out hin, List.take_append_of_le_length (by rw [List.length_take, HCL.out]; omega), List.take_take, Nat.min_self]
    · have g12 : Wrote (fun k => (Value.slice (some ⟨g, 0, none⟩) n cap).ownBlock = some k) w w2 := (Wrote.of_below b1).trans g2 (fun j hj e => by have := HN.out; omega)
      exact (g12.next (Below.refl _ w2).drew).trans g3 (fun j hj e => by have := HN.out; omega)
    · right
      have := HN.out
      injection e with e
      simp at e
      omega
  · -- in place
    have hqc : q ≤ cap := by omega
    have hcut2 := cut_hi_w (some ⟨g, 0, none⟩) n cap q (by omega)
    have hcut3 := cut_lo_strs (some ⟨g, 0, none⟩) q cap k (by have := HQ.out; have := HK.out; omega) hqc
    have hcut4 := cut_lo_strs (some ⟨g, 0, none⟩) q cap i (by have := HQ.out; omega) hqc
    obtain ⟨vc, HV⟩ := hpl ad rfl
    have hsp : ad.spot = none := by
      obtain ⟨b', off', e', _⟩ := hr.cell 0 _ (List.getElem?_eq_getElem (show 0 < r.length by rw [HR.out]; exact hmp.out))
      injection e' with e'
      rw [e']
    have hov : (callFunc 231 #[.slice (some ad) m c, .slice (cutA (some ⟨g, 0, none⟩) cap k) (q - k) (cap - k)]).run Tryz.prog w = .ok (.value (.bool false)) w := by
      rw [cutA_some (by have := HQ.out; have := HK.out; omega)]
      exact run_overlaps_w w ad ⟨g, k, none⟩ m c (q - k) (cap - k) (fun e => HNE.out e.symm) HV HRW.out (fun e => by have := HCL.out; rw [e] at this; simp at this; omega) hsp
    clear HV vc
    have e1 : (tv (l.drop i)).length = Nat.min (q - i) (q - k) := minR (by rw [tv_len, List.length_drop, HL.out]; have := HQ.out; have := HK.out; omega) (by have := HK.out; omega)
    have e2 : RowV w.drew g cur := HRW.out
    have e3 : 0 < (tv (l.drop i)).length → cutA (some ⟨g, 0, none⟩) cap k = some ⟨g, k, none⟩ ∧ ∃ ad, cutA (some ⟨g, 0, none⟩) cap i = some ad ∧ ∀ j v, (tv (l.drop i))[j]? = some v → w.drew.cell? (ad.add j) = some v := fun _ => ⟨cutA_some (by have := HQ.out; have := HK.out; omega), _, cutA_some (by omega), row_src e2 _ (tail_src HTK.out)⟩
    have e4 : k + (tv (l.drop i)).length ≤ cur.length := by
      rw [tv_len, List.length_drop, HL.out]
      have := HCL.out; have := HQ.out; have := HK.out
      omega
    have E1 := Lib.hid e1
    have E2 := Lib.hid e2
    have E3 := Lib.hid e3
    have E4 := Lib.hid e4
    clear e1 e2 e3 e4
    go_enter Tryz.func230, Tryz.ntmps230
    go_wp2
    go_region_law (refine step_copy_w (.tmp 73) (.tmp 76) (cutA (some ⟨g, 0, none⟩) cap k) (cutA (some ⟨g, 0, none⟩) cap i) (q - k) (cap - k) (q - i) (cap - i) g k cur (tv (l.drop i)) E2.out E1.out E3.out E4.out (tv_one _) (by rfl) (by rfl) (by simp [Act.eval, Act.put]) (by simp [Act.eval, Act.put]) ?_; intro w3 hr3 g3)
    have g3' : Wrote (fun k => k = g) w w3 := (Wrote.of_below (Below.refl _ w).drew).trans g3 (fun _ _ e => e)
    have e4 : i + (tv r).length ≤ (splice cur k (tv (l.drop i))).length := by
      rw [length_splice _ _ _ E4.out, tv_len, HR.out, HCL.out]
      have := HQ.out; omega
    go_wp2_with (refine wpList_copy_w (.tmp 80) (.tmp 81) (cutA (some ⟨g, 0, none⟩) cap i) (some ad) (q - i) (cap - i) m c g i (splice cur k (tv (l.drop i))) (tv r) hr3 (minL (by rw [tv_len, HR.out]) (by have := HQ.out; omega)) (fun _ => ⟨cutA_some (by omega), ad, rfl, src_wrote g3' (fun e => HNE.out e.symm) HSRC.out⟩) e4 (tv_one r) rfl rfl rfl rfl ?_; intro w4 hr4 g4)
    go_ret
    have hsmall : ∀ s ∈ l.take i ++ (r ++ l.drop i), s.size ≤ maxLen := fun s hs => by
      rcases List.mem_append.1 hs with h | h
      · exact ho.small s (List.mem_of_mem_take h)
      · rcases List.mem_append.1 h with h | h
        · exact hr.small s h
        · exact ho.small s (List.mem_of_mem_drop h)
    refine ⟨_, rfl, ownV_of_row hr4 hgb ?_ hqc hcm ?_ ?_ hsmall, ?_, fun k e => .inl e⟩
    · have h1 := HL.out; have h2 := HR.out; have h3 := HQ.out
      simp; omega
    · rw [length_splice _ _ _ e4, length_splice _ _ _ E4.out]
      exact HCL.out
    · have h1 := splice_in1 cur (tv (l.drop i)) (tv r) (i := i) (k := k) (by rw [tv_len, HR.out, HK.out]) E4.out
      have h2 : k + (tv (l.drop i)).length = q := by rw [tv_len, List.length_drop, HL.out]; have := HQ.out; have := HK.out; omega
      rw [h2] at h1
      rw [h1, tv_app, tv_app, tv_take, ← take_of_take HTK.out hin]
    · exact (g3'.trans g4 (fun _ _ e => e)).mono (fun j _ e => by rw [e]; rfl)

end Go.Proofs.YtnnaigoomipklaaGreatDoor
