/-
  The laws' own small functions on texts: counted, copied, compared, marked.
-/
import Derived.Test.YtnimaadjmejmpaaGreatDoorProg
import Derived.Test.YtnimaadjmejmpaaGreatDoorBase
import Derived.Test.YtnimaadjmejmpaaGreatDoorMem
import Derived.Deep.RegionWith
import Derived.Deep.RegionHeld3
set_option linter.unusedSimpArgs false
set_option linter.unusedVariables false
namespace Go.Proofs.YtnimaadjmejmpaaGreatDoor
open Go.RowKit M

theorem str_info : (Tryz.prog.info? 9).map (fun i => (i.zero, i.size, i.bytes)) = some (some (.string ByteArray.empty), 1, 16) := by kernel_rfl
theorem info_parts {P : Program} {t : TypeId} {z : Value} {s b : Nat} (h : (P.info? t).map (fun i => (i.zero, i.size, i.bytes)) = some (some z, s, b)) : ∃ i, P.info? t = some i ∧ i.zero = some z ∧ i.size = s ∧ i.bytes = b := by
  cases hi : P.info? t with
  | none => rw [hi] at h; cases h
  | some i => rw [hi] at h; simp at h; exact ⟨i, rfl, h.1, h.2.1, h.2.2⟩
theorem make_strs (n : Nat) (hn : n ≤ 1048576) (w : World) :
    (Instr.makeSlice 33 (.int .i64 (n : Int)) (.int .i64 (n : Int))).run Tryz.prog w = .ok (.slice (some ⟨w.heap.size, 0, none⟩) n n) (w.alloc (.cells (blanks n) 9)) := by
  obtain ⟨i, h1, h2, h3, h4⟩ := info_parts str_info
  exact run_make_strs 33 9 i Tryz.underlying33 h1 h2 h3 h4 n (by omega) w

theorem make_strs_sub (hi lo : Nat) (h : lo ≤ hi) (hn : hi ≤ 1048576) (w : World) :
    (Instr.makeSlice 33 (.int .i64 ((hi : Int) - (lo : Int))) (.int .i64 ((hi : Int) - (lo : Int)))).run Tryz.prog w = .ok (.slice (some ⟨w.heap.size, 0, none⟩) (hi - lo) (hi - lo)) (w.alloc (.cells (blanks (hi - lo)) 9)) := by
  rw [show (hi : Int) - (lo : Int) = ((hi - lo : Nat) : Int) from by omega]
  exact make_strs (hi - lo) (by omega) w
theorem cut_strs (a : Option Addr) (n c lo hi : Nat) (h1 : lo ≤ hi) (h2 : hi ≤ c) (w : World) :
    (Instr.slice 33 (.slice a n c) (some (.int .i64 (lo : Int))) (some (.int .i64 (hi : Int))) none).run Tryz.prog w = .ok (.slice (cutA a c lo) (hi - lo) (c - lo)) w := by
  obtain ⟨i, h3, h4, h5, h6⟩ := info_parts str_info
  exact run_cut Tryz.underlying33 h3 h5 a n c lo hi h1 h2 w

theorem app_strs {w : World} {ops : Array Oper} {rest : List Oper} {o : Oper} {a : Act} {Q : Exit → Act → World → Prop} (s x : Operand) (base : Nat) (v : Value) (l : List ByteArray) (hown : OwnV w base v l) (A : Option Addr) (m c : Nat) (r : List ByteArray) (hr : Strs w A m r)
    (hbound : l.length + m ≤ 4294967296) (hbase : base ≤ w.heap.size) (hgd : Region.wanted o (yielded ops a.tmps) = true) (ho : o.op = .call { callee := .builtin .append, args := #[s, x], argTypes := #[33, 33] }) (hs : a.eval s = v) (hx : a.eval x = .slice A m c)
    (h : ∀ v' w', OwnV w' base v' (l ++ r) → w.grownBy w' v.ownBlock → (v'.ownBlock = v.ownBlock ∨ v'.ownBlock = some w.heap.size) → wpList Tryz.prog ops Q rest (a.put o.dst v') w') : wpList Tryz.prog ops Q (o :: rest) a w := by
  obtain ⟨i, h1, h2, h3, h4⟩ := info_parts str_info
  exact wpList_app Tryz.underlying33 h1 h2 h3 h4 s x base v l hown A m c r hr hbound hbase hgd ho hs hx h

theorem eq_step {l r : List ByteArray} {k : Nat} {s t : ByteArray} (H : ∀ j s t, j < k → l[j]? = some s → r[j]? = some t → s = t) (hs : l[k]? = some s) (ht : r[k]? = some t) (h : s = t) :
    ∀ j s t, j < k + 1 → l[j]? = some s → r[j]? = some t → s = t := by
  intro j s' t' hj hs' ht'
  by_cases e : j = k
  · subst e; rw [hs] at hs'; rw [ht] at ht'; injection hs' with hs'; injection ht' with ht'; rw [← hs', ← ht', h]
  · exact H j s' t' (by omega) hs' ht'

set_option maxHeartbeats 400000 in
theorem eqStringS_any (a b : Option Addr) (n m c d : Nat) (l r : List ByteArray) (w : World) (hl : Strs w a n l) (hr : Strs w b m r) :
    Calls Tryz.prog 106 #[.slice a n c, .slice b m d] w fun e w' => e = .returned (.bool (eqT l r)) ∧ Drawn w w' := by
  have HL := Lib.hid hl.len
  have HR := Lib.hid hr.len
  have hlim := hl.lim
  unfold maxLen at hlim
  by_cases hnm : n = m
  · subst hnm
    have hq : ((n : Int) != (n : Int)) = false := by simp
    go_enter Tryz.func106, Tryz.ntmps106
    go_wp2
    go_loopw [5] (fun i w' => ∃ k : Nat, i = .int .i64 k ∧ k ≤ n ∧ Hid (∀ j s t, j < k → l[j]? = some s → r[j]? = some t → s = t) ∧ Drawn w w') (fun i _ => n - (intOf i).toNat)
    case atStart => exact ⟨0, rfl, by omega, fun j s t h => by omega, Drawn.refl _⟩
    case round =>
      obtain ⟨k, rfl, hk, H, hb⟩ := hrel
      by_cases hlt : k < n
      · obtain ⟨b1, off1, s, rfl, hs, hsz, hc1⟩ := (hl.below hb.below).at_ hlt
        obtain ⟨b2, off2, t, rfl, ht, htz, hc2⟩ := (hr.below hb.below).at_ hlt
        have HS := Lib.hid hs
        have HT := Lib.hid ht
        clear hs ht
        have hi0 : (0 : Int) ≤ (k : Int) := by omega
        have hi1 : (k : Int) < (n : Int) := by omega
        by_cases hst : s = t
        · have hb2 : (s.toList == t.toList) = true := by rw [hst]; simp
          have HST := Lib.hid hst
          clear hst
          go_wp2
          go_quiet (fail)
          go_wp2
          go_roundw
          case rel => exact ⟨k + 1, by go_num, by omega, eq_step H.out HS.out HT.out HST.out, hb.more _⟩
          case measure => simp [intOf]; omega
        · have hb2 := beq_other hst
          have hf := Lib.hid (eqT_at HS.out HT.out hst)
          clear hst
          go_wp2
          go_quiet (fail)
          go_wp2
          go_ret
          exact ⟨ret_bool hf.out.symm, hb.more _⟩
      · have hf := Lib.hid (eqT_all (fun j s t h1 h2 => H.out j s t (by have := (List.getElem?_eq_some_iff.1 h1).1; have := HL.out; omega) h1 h2) (HL.out.trans HR.out.symm))
        go_wp2
        go_ret
        exact ⟨ret_bool hf.out.symm, hb⟩
  · have hq : ((n : Int) != (m : Int)) = true := by simp; omega
    have hf := Lib.hid (eqT_len (l := l) (r := r) (by rw [HL.out, HR.out]; exact hnm))
    go_enter Tryz.func106, Tryz.ntmps106
    go_wp2
    go_ret
    exact ⟨ret_bool hf.out.symm, Drawn.refl _⟩

theorem conv_one (x : Int) (w : World) : (convert 22 9 (.slice (some ⟨w.heap.size, 0, none⟩) 1 1)).run Tryz.prog (w.alloc (.cells #[.int .u8 x] 5)) = .ok (.string ⟨#[UInt8.ofNat x.toNat]⟩) (w.alloc (.cells #[.int .u8 x] 5)) := by
  rw [run_convert_bytes_string _ _ _ 5 _ _ _ Tryz.underlying22 Tryz.underlying5 Tryz.underlying9]
  have h := run_loadCells_list (P := Tryz.prog) (w := w.alloc (.cells #[.int .u8 x] 5)) ⟨w.heap.size, 0, none⟩ [.int .u8 x] (cell_one_new w (.int .u8 x) 5)
  exact run_bytesToString _ _ 1 1 [x] (by simpa using h)
theorem cons_bytes (c : UInt8) (acc : List UInt8) : (⟨#[c]⟩ : ByteArray) ++ ⟨acc.toArray⟩ = ⟨(c :: acc).toArray⟩ := by
  rw [ByteArray.ext_iff]
  simp [ByteArray.data_append]

set_option maxHeartbeats 400000 in
theorem markText_any (k : Nat) (w : World) (hk : k ≤ 33554432) :
    Calls Tryz.prog 107 #[.int .i64 k] w fun e w' => e = .returned (.string (markT k)) ∧ Below w.heap.size w w' := by
  by_cases h0 : k = 0
  · subst h0
    go_enter Tryz.func107, Tryz.ntmps107
    go_wp2
    go_ret
    exact ⟨rfl, Below.refl _ _⟩
  · have hle : ¬ ((k : Int) ≤ 0) := by omega
    go_enter Tryz.func107, Tryz.ntmps107
    go_wp2
    go_loopw [0, 3] (fun i o w' => ∃ (j f : Nat) (acc : List UInt8), i = .int .i64 j ∧ o = .string ⟨acc.toArray⟩ ∧ j ≤ 33554432 ∧ j ≤ f ∧ f + acc.length ≤ 33554432 ∧ Hid (dg f j acc = dg k k []) ∧ Below w.heap.size w w') (fun i _ _ => (intOf i).toNat)
    case atStart => exact ⟨k, k, [], rfl, rfl, hk, Nat.le_refl _, by simpa using hk, rfl, Below.refl _ _⟩
    case round =>
      obtain ⟨j, f, acc, rfl, rfl, hj, hf, ha, H, hb⟩ := hrel
      by_cases hp : 0 < j
      · have hcv := conv_one (48 + (j : Int) % 10) wr
        obtain ⟨f, rfl⟩ : ∃ f', f = f' + 1 := ⟨f - 1, by omega⟩
        have H2 := Lib.hid (show dg f (j / 10) ((48 + UInt8.ofNat (j % 10)) :: acc) = dg k k [] by
          have h := H.out; rwa [dg_succ _ _ _ (by omega)] at h)
        go_wp2
        go_roundw
        case rel => exact ⟨j / 10, f, _, by go_num, congrArg Value.string (cons_bytes _ _), by omega, by omega, by simp; omega, H2.out, hb.alloc hb.size _⟩
        case measure => simp [intOf]; omega
      · obtain rfl : j = 0 := by omega
        have hf := Lib.hid (show markT k = ⟨(109 :: acc).toArray⟩ by
          have h := H.out; rw [dg_zero] at h; rw [h]; exact if_neg h0)
        go_wp2
        go_ret
        exact ⟨ret_str (by rw [hf.out]; exact cons_bytes _ _), hb⟩

set_option maxHeartbeats 400000 in
theorem markStringS_any (A : Option Addr) (n cap base k0 : Nat) (l : List ByteArray) (w : World) (ho : OwnV w base (.slice A n cap) l) (hn : n ≤ 1048576) (hk : k0 ≤ 16777216) :
    Calls Tryz.prog 67 #[.slice A n cap, .int .i64 k0] w fun e w' => e = .returned (.int .i64 ((k0 + n : Nat) : Int)) ∧ OwnV w' base (.slice A n cap) (marks k0 n) ∧ w.grownBy w' (Value.slice A n cap).ownBlock := by
  have HL := Lib.hid ho.strs.len
  go_enter Tryz.func67, Tryz.ntmps67
  go_wp2
  go_loopw [1, 5] (fun q i w' => ∃ j : Nat, i = .int .i64 j ∧ q = .int .i64 ((k0 + j : Nat) : Int) ∧ j ≤ n ∧ OwnV w' base (.slice A n cap) (markTo l k0 j) ∧ w.grownBy w' (Value.slice A n cap).ownBlock) (fun _ i _ => n - (intOf i).toNat)
  case atStart => exact ⟨0, rfl, by simp, by omega, by simpa [markTo, marks] using ho, ⟨rfl, rfl, rfl, Nat.le_refl _, fun _ _ _ => rfl⟩⟩
  case round =>
    obtain ⟨j, rfl, rfl, hj, h1, h2⟩ := hrel
    by_cases hlt : j < n
    · have hmk := Lib.hid (markTo_set l k0 j (by rw [HL.out]; exact hlt))
      have hms := markT_size (k0 + j)
      go_wp2_with fail
      refine (markText_any (k0 + j) _ (by omega)).mono ?_
      rintro e w1 ⟨rfl, b1⟩
      obtain ⟨g, rfl, hg1, hg2, ⟨u, hc⟩, hfz, hset⟩ := (h1.below b1).at_ hlt
      obtain ⟨o2, g2⟩ := hset (markT (k0 + j)) (by unfold maxLen; omega)
      rw [hmk.out] at o2
      go_wp2
      go_roundw
      case rel =>
        refine ⟨j + 1, by go_num, by go_num, by omega, o2, ?_⟩
        exact (h2.trans (grown_of_below b1 _)).trans g2
      case measure => simp [intOf]; omega
    · obtain rfl : j = n := by omega
      have hf := Lib.hid (markTo_all l k0)
      go_wp2
      go_ret
      refine ⟨rfl, ?_, h2⟩
      have h3 := hf.out
      rw [HL.out] at h3
      rw [← h3]
      exact h1

set_option maxHeartbeats 400000 in
theorem heldStringS_any (A : Option Addr) (n cap k0 : Nat) (w : World) (ho : Strs w A n (marks k0 n)) (hn : n ≤ 1048576) (hk : k0 ≤ 16777216) :
    Calls Tryz.prog 68 #[.slice A n cap, .int .i64 k0] w fun e w' => e = .returned (.int .i64 ((k0 + n : Nat) : Int)) ∧ Below w.heap.size w w' := by
  go_enter Tryz.func68, Tryz.ntmps68
  go_wp2
  go_loopw [1, 5] (fun q i w' => ∃ j : Nat, i = .int .i64 j ∧ q = .int .i64 ((k0 + j : Nat) : Int) ∧ j ≤ n ∧ Below w.heap.size w w') (fun _ i _ => n - (intOf i).toNat)
  case atStart => exact ⟨0, rfl, by simp, by omega, Below.refl _ _⟩
  case round =>
    obtain ⟨j, rfl, rfl, hj, hb⟩ := hrel
    by_cases hlt : j < n
    · obtain ⟨b, off, s, rfl, hs, hsz, hc⟩ := (ho.below hb).at_ hlt
      have hs2 : s = markT (k0 + j) := by rw [marks_get _ _ _ hlt] at hs; injection hs with hs; exact hs.symm
      subst hs2
      clear hs
      have hi0 : (0 : Int) ≤ (j : Int) := by omega
      have hi1 : (j : Int) < (n : Int) := by omega
      have hbq := beq_same (markT (k0 + j))
      go_wp2
      go_region_held3 (fun w' => w'.cell? ⟨b, off + j, none⟩ = some (.string (markT (k0 + j)))) (first | exact hc | exact cell_keep b1 hc | go_keep)
        (first | (go_at_call 107; refine (markText_any (k0 + j) _ (by omega)).mono ?_; rintro e w1 ⟨rfl, b1⟩))
      go_wp2
      go_roundw
      case rel => exact ⟨j + 1, by go_num, by go_num, by omega, hb.drew.next b1⟩
      case measure => simp [intOf]; omega
    · obtain rfl : j = n := by omega
      go_wp2
      go_ret
      exact ⟨rfl, hb⟩

set_option maxHeartbeats 400000 in
theorem sameTexts_any (a b : Option Addr) (n m c d : Nat) (l r : List ByteArray) (w : World) (hl : Strs w a n l) (hr : Strs w b m r) :
    Calls Tryz.prog 25 #[.slice a n c, .slice b m d] w fun e w' => e = .returned (.bool (eqT l r)) ∧ Drawn w w' := by
  have HL := Lib.hid hl.len
  have HR := Lib.hid hr.len
  have hlim := hl.lim
  unfold maxLen at hlim
  by_cases hnm : n = m
  · subst hnm
    have hq : ((n : Int) != (n : Int)) = false := by simp
    go_enter Tryz.func25, Tryz.ntmps25
    go_wp2
    go_loopw [13] (fun i w' => ∃ k : Nat, i = .int .i64 k ∧ k ≤ n ∧ Hid (∀ j s t, j < k → l[j]? = some s → r[j]? = some t → s = t) ∧ Drawn w w') (fun i _ => n - (intOf i).toNat)
    case atStart => exact ⟨0, rfl, by omega, fun j s t h => by omega, Drawn.refl _⟩
    case round =>
      obtain ⟨k, rfl, hk, H, hb⟩ := hrel
      by_cases hlt : k < n
      · obtain ⟨b1, off1, s, rfl, hs, hsz, hc1⟩ := (hl.below hb.below).at_ hlt
        obtain ⟨b2, off2, t, rfl, ht, htz, hc2⟩ := (hr.below hb.below).at_ hlt
        have HS := Lib.hid hs
        have HT := Lib.hid ht
        clear hs ht
        have hi0 : (0 : Int) ≤ (k : Int) := by omega
        have hi1 : (k : Int) < (n : Int) := by omega
        by_cases hst : s = t
        · have hb2 : (s.toList == t.toList) = true := by rw [hst]; simp
          have HST := Lib.hid hst
          clear hst
          go_wp2
          go_quiet (fail)
          go_wp2
          go_roundw
          case rel => exact ⟨k + 1, by go_num, by omega, eq_step H.out HS.out HT.out HST.out, hb.more _⟩
          case measure => simp [intOf]; omega
        · have hb2 := beq_other hst
          have hf := Lib.hid (eqT_at HS.out HT.out hst)
          clear hst
          go_wp2
          go_quiet (fail)
          go_wp2
          go_ret
          exact ⟨ret_bool hf.out.symm, hb.more _⟩
      · have hf := Lib.hid (eqT_all (fun j s t h1 h2 => H.out j s t (by have := (List.getElem?_eq_some_iff.1 h1).1; have := HL.out; omega) h1 h2) (HL.out.trans HR.out.symm))
        go_wp2
        go_ret
        exact ⟨ret_bool hf.out.symm, hb⟩
  · have hq : ((n : Int) != (m : Int)) = true := by simp; omega
    have hf := Lib.hid (eqT_len (l := l) (r := r) (by rw [HL.out, HR.out]; exact hnm))
    go_enter Tryz.func25, Tryz.ntmps25
    go_wp2
    go_ret
    exact ⟨ret_bool hf.out.symm, Drawn.refl _⟩

end Go.Proofs.YtnimaadjmejmpaaGreatDoor
