/-
  The laws' own small functions on texts: counted, copied, compared, marked.
-/
import Derived.Test.YtgohaemmnpifbaaProg
import Derived.Test.YtgohaemmnpifbaaBase
import Derived.Test.YtgohaemmnpifbaaMem
import Derived.Deep.RegionWith
import Derived.Deep.RegionHeld3
set_option linter.unusedSimpArgs false
set_option linter.unusedVariables false
namespace Go.Proofs.Ytgohaemmnpifbaa
open Go.RowKit M

theorem str_info : (Try.prog.info? 9).map (fun i => (i.zero, i.size, i.bytes)) = some (some (.string ByteArray.empty), 1, 16) := by kernel_rfl
theorem info_parts {P : Program} {t : TypeId} {z : Value} {s b : Nat} (h : (P.info? t).map (fun i => (i.zero, i.size, i.bytes)) = some (some z, s, b)) : ∃ i, P.info? t = some i ∧ i.zero = some z ∧ i.size = s ∧ i.bytes = b := by
  cases hi : P.info? t with
  | none => rw [hi] at h; cases h
  | some i => rw [hi] at h; simp at h; exact ⟨i, rfl, h.1, h.2.1, h.2.2⟩
theorem make_strs (n : Nat) (hn : n ≤ 1048576) (w : World) :
    (Instr.makeSlice 22 (.int .i64 (n : Int)) (.int .i64 (n : Int))).run Try.prog w = .ok (.slice (some ⟨w.heap.size, 0, none⟩) n n) (w.alloc (.cells (blanks n) 9)) := by
  obtain ⟨i, h1, h2, h3, h4⟩ := info_parts str_info
  exact run_make_strs 22 9 i Try.underlying22 h1 h2 h3 h4 n (by omega) w

theorem make_strs_sub (hi lo : Nat) (h : lo ≤ hi) (hn : hi ≤ 1048576) (w : World) :
    (Instr.makeSlice 22 (.int .i64 ((hi : Int) - (lo : Int))) (.int .i64 ((hi : Int) - (lo : Int)))).run Try.prog w = .ok (.slice (some ⟨w.heap.size, 0, none⟩) (hi - lo) (hi - lo)) (w.alloc (.cells (blanks (hi - lo)) 9)) := by
  rw [show (hi : Int) - (lo : Int) = ((hi - lo : Nat) : Int) from by omega]
  exact make_strs (hi - lo) (by omega) w
theorem cut_strs (a : Option Addr) (n c lo hi : Nat) (h1 : lo ≤ hi) (h2 : hi ≤ c) (w : World) :
    (Instr.slice 22 (.slice a n c) (some (.int .i64 (lo : Int))) (some (.int .i64 (hi : Int))) none).run Try.prog w = .ok (.slice (cutA a c lo) (hi - lo) (c - lo)) w := by
  obtain ⟨i, h3, h4, h5, h6⟩ := info_parts str_info
  exact run_cut Try.underlying22 h3 h5 a n c lo hi h1 h2 w

theorem app_strs {w : World} {ops : Array Oper} {rest : List Oper} {o : Oper} {a : Act} {Q : Exit → Act → World → Prop} (s x : Operand) (base : Nat) (v : Value) (l : List ByteArray) (hown : OwnV w base v l) (A : Option Addr) (m c : Nat) (r : List ByteArray) (hr : Strs w A m r)
    (hbound : l.length + m ≤ 4294967296) (hbase : base ≤ w.heap.size) (hgd : Region.wanted o (yielded ops a.tmps) = true) (ho : o.op = .call { callee := .builtin .append, args := #[s, x], argTypes := #[22, 22] }) (hs : a.eval s = v) (hx : a.eval x = .slice A m c)
    (h : ∀ v' w', OwnV w' base v' (l ++ r) → w.grownBy w' v.ownBlock → (v'.ownBlock = v.ownBlock ∨ v'.ownBlock = some w.heap.size) → wpList Try.prog ops Q rest (a.put o.dst v') w') : wpList Try.prog ops Q (o :: rest) a w := by
  obtain ⟨i, h1, h2, h3, h4⟩ := info_parts str_info
  exact wpList_app Try.underlying22 h1 h2 h3 h4 s x base v l hown A m c r hr hbound hbase hgd ho hs hx h

set_option maxHeartbeats 400000 in
theorem szStringS_any (a : Option Addr) (n c : Nat) (l : List ByteArray) (left : Int) (w : World) (hl : Strs w a n l) (h0 : 0 ≤ left) (h1 : left ≤ 1048576) :
    Calls Try.prog 8 #[.slice a n c, .int .i64 left] w fun e w' => e = .returned (.int .i64 (szS l left)) ∧ w = w' := by
  have hlim := hl.lim
  unfold maxLen at hlim
  have HL := Lib.hid hl.len
  by_cases hn : left < n
  · have hf := Lib.hid (show szS l left = -1 from if_pos (by rw [HL.out]; omega))
    go_enter Try.func8, Try.ntmps8
    go_wp2
    go_ret
    exact ⟨ret_int hf.out.symm, rfl⟩
  · go_enter Try.func8, Try.ntmps8
    go_wp2
    go_loop [1, 5] (fun q i => ∃ k : Nat, ∃ r : Int, i = .int .i64 k ∧ q = .int .i64 r ∧ k ≤ n ∧ 0 ≤ r ∧ r ≤ 1048576 ∧ Hid (r + n + total (l.take k) = left)) (fun _ i => n - (intOf i).toNat)
    case atStart => exact ⟨0, left - n, rfl, rfl, by omega, by omega, by omega, show left - n + n + ((total (l.take 0) : Nat) : Int) = left by simp [total]⟩
    case round =>
      obtain ⟨k, r, rfl, rfl, hk, hr0, hr1, H⟩ := hrel
      by_cases hlt : k < n
      · obtain ⟨b, off, s, rfl, hs, hsz, hc⟩ := hl.at_ hlt
        have HS := Lib.hid hs
        clear hs
        unfold maxLen at hsz
        by_cases hq : r < s.size
        · have hf := Lib.hid (show szS l left = -1 from if_pos (by
            have h1 := total_take_succ HS.out; have h2 := total_take_le l (k + 1); have h3 := H.out; rw [HL.out]; omega))
          go_wp2
          go_ret
          exact ⟨ret_int hf.out.symm, rfl⟩
        · have h1 := Lib.hid (total_take_succ HS.out)
          go_wp2
          go_round
          case rel => exact ⟨k + 1, r - s.size, by go_num, rfl, by omega, by omega, by omega, show _ = _ by have h1 := h1.out; have h3 := H.out; omega⟩
          case measure => simp [intOf]; omega
      · have hf := Lib.hid (show szS l left = r by
          have h3 := H.out
          have h4 : l.take k = l := List.take_of_length_le (by rw [HL.out]; omega)
          rw [h4] at h3
          unfold szS
          rw [if_neg (by rw [HL.out]; omega), HL.out]
          omega)
        go_wp2
        go_ret
        exact ⟨ret_int hf.out.symm, rfl⟩

set_option maxHeartbeats 400000 in
theorem toStringS_any (a : Option Addr) (n c : Nat) (l : List ByteArray) (w : World) (hl : Strs w a n l) (hn : n ≤ 1048576) :
    Calls Try.prog 11 #[.slice a n c] w fun e w' => e = .returned (.slice (some ⟨w.heap.size, 0, none⟩) n n) ∧ OwnV w' w.heap.size (.slice (some ⟨w.heap.size, 0, none⟩) n n) l ∧ Below w.heap.size w w' := by
  have HL := Lib.hid hl.len
  have hsm := Lib.hid hl.small
  have hmk := make_strs n hn
  go_enter Try.func11, Try.ntmps11
  go_wp2
  go_loopw [4] (fun i w' => ∃ k : Nat, i = .int .i64 k ∧ k ≤ n ∧ Own w' w.heap.size (fill l k) ∧ Below w.heap.size w w') (fun i _ => n - (intOf i).toNat)
  case atStart =>
    refine ⟨0, rfl, by omega, ?_, (Below.refl _ _).alloc (Nat.le_refl _) _⟩
    rw [fill_zero, HL.out]
    exact Own.new w _
  case round =>
    obtain ⟨k, rfl, hk, ho, hb⟩ := hrel
    by_cases hlt : k < n
    · obtain ⟨b, off, s, rfl, hs, hsz, hc⟩ := (hl.below hb).at_ hlt
      have hfz := ho.frozen (k := k)
      obtain ⟨t, ht⟩ : ∃ t, (fill l k)[k]? = some t := ⟨_, List.getElem?_eq_getElem (by rw [fill_len l (by rw [HL.out]; omega), HL.out]; exact hlt)⟩
      have hcg := ho.cell ht
      have HS := Lib.hid hs
      clear hs ht
      go_wp2
      go_roundw
      case rel => exact ⟨k + 1, by go_num, by omega, by rw [← fill_set HS.out]; exact ho.set_ _ _, hb.setCell (Nat.le_refl _) _⟩
      case measure => simp [intOf]; omega
    · have hf := Lib.hid (fill_all l (k := k) (by rw [HL.out]; omega))
      go_wp2
      go_ret
      refine ⟨rfl, ?_, hb⟩
      rw [hf.out] at ho
      have h1 := ho.ownV (Nat.le_refl _) (by rw [HL.out]; unfold maxLen; omega) hsm.out
      rwa [HL.out] at h1

theorem eq_step {l r : List ByteArray} {k : Nat} {s t : ByteArray} (H : ∀ j s t, j < k → l[j]? = some s → r[j]? = some t → s = t) (hs : l[k]? = some s) (ht : r[k]? = some t) (h : s = t) :
    ∀ j s t, j < k + 1 → l[j]? = some s → r[j]? = some t → s = t := by
  intro j s' t' hj hs' ht'
  by_cases e : j = k
  · subst e; rw [hs] at hs'; rw [ht] at ht'; injection hs' with hs'; injection ht' with ht'; rw [← hs', ← ht', h]
  · exact H j s' t' (by omega) hs' ht'

set_option maxHeartbeats 400000 in
theorem eqStringS_any (a b : Option Addr) (n m c d : Nat) (l r : List ByteArray) (w : World) (hl : Strs w a n l) (hr : Strs w b m r) :
    Calls Try.prog 15 #[.slice a n c, .slice b m d] w fun e w' => e = .returned (.bool (eqT l r)) ∧ Drawn w w' := by
  have HL := Lib.hid hl.len
  have HR := Lib.hid hr.len
  have hlim := hl.lim
  unfold maxLen at hlim
  by_cases hnm : n = m
  · subst hnm
    have hq : ((n : Int) != (n : Int)) = false := by simp
    go_enter Try.func15, Try.ntmps15
    go_wp2
    go_loopw [5] (fun i w' => ∃ k : Nat, i = .int .i64 k ∧ k ≤ n ∧ Hid (∀ j s t, j < k → l[j]? = some s → r[j]? = some t → s = t) ∧ Drawn w w') (fun i _ => n - (intOf i).toNat)
    case atStart => exact ⟨0, rfl, by omega, fun j s t h => by omega, Drawn.refl _⟩
    case round =>
      obtain ⟨k, rfl, hk, H, hb⟩ := hrel
      by_cases hlt : k < n
      · obtain ⟨b1, off1, s, rfl, hs, hsz, hc1⟩ := (hl.below hb.below).at_ hlt
        obtain ⟨b2, off2, t, rfl, ht, htz, hc2⟩ := (hr.below hb.below).at_ hlt
        have HS := Lib.hid hs
        have HT := Lib.hid ht
        clear hs ht
        have hi0 : (0 : Int) ≤ (k : Int) := by omega
        have hi1 : (k : Int) < (n : Int) := by omega
        by_cases hst : s = t
        · have hb2 : (s.toList == t.toList) = true := by rw [hst]; simp
          have HST := Lib.hid hst
          clear hst
          go_wp2
          go_quiet (fail)
          go_wp2
          go_roundw
          case rel => exact ⟨k + 1, by go_num, by omega, eq_step H.out HS.out HT.out HST.out, hb.more _⟩
          case measure => simp [intOf]; omega
        · have hb2 := beq_other hst
          have hf := Lib.hid (eqT_at HS.out HT.out hst)
          clear hst
          go_wp2
          go_quiet (fail)
          go_wp2
          go_ret
          exact ⟨ret_bool hf.out.symm, hb.more _⟩
      · have hf := Lib.hid (eqT_all (fun j s t h1 h2 => H.out j s t (by have := (List.getElem?_eq_some_iff.1 h1).1; have := HL.out; omega) h1 h2) (HL.out.trans HR.out.symm))
        go_wp2
        go_ret
        exact ⟨ret_bool hf.out.symm, hb⟩
  · have hq : ((n : Int) != (m : Int)) = true := by simp; omega
    have hf := Lib.hid (eqT_len (l := l) (r := r) (by rw [HL.out, HR.out]; exact hnm))
    go_enter Try.func15, Try.ntmps15
    go_wp2
    go_ret
    exact ⟨ret_bool hf.out.symm, Drawn.refl _⟩

theorem sz_neg (a : Option Addr) (n c : Nat) (l : List ByteArray) (left : Int) (w : World) (hl : Strs w a n l) (h0 : 0 ≤ left) (h1 : left ≤ 1048576) (h : left < l.length + total l) :
    Calls Try.prog 8 #[.slice a n c, .int .i64 left] w fun e w' => e = .returned (.int .i64 (-1)) ∧ w = w' := by
  have e : szS l left = -1 := if_pos h
  rw [← e]
  exact szStringS_any a n c l left w hl h0 h1
theorem sz_pos (a : Option Addr) (n c : Nat) (l : List ByteArray) (left : Int) (w : World) (hl : Strs w a n l) (h0 : 0 ≤ left) (h1 : left ≤ 1048576) (h : (l.length : Int) + total l ≤ left) :
    Calls Try.prog 8 #[.slice a n c, .int .i64 left] w fun e w' => ∃ r : Int, 0 ≤ r ∧ r ≤ 1048576 ∧ e = .returned (.int .i64 r) ∧ w = w' := by
  have e : szS l left = left - l.length - total l := if_neg (by omega)
  refine (szStringS_any a n c l left w hl h0 h1).mono fun e' w' ⟨h1, h2⟩ => ⟨_, ?_, ?_, h1, h2⟩ <;> omega

theorem conv_one (x : Int) (w : World) : (convert 91 9 (.slice (some ⟨w.heap.size, 0, none⟩) 1 1)).run Try.prog (w.alloc (.cells #[.int .u8 x] 5)) = .ok (.string ⟨#[UInt8.ofNat x.toNat]⟩) (w.alloc (.cells #[.int .u8 x] 5)) := by
  rw [run_convert_bytes_string _ _ _ 5 _ _ _ Try.underlying91 Try.underlying5 Try.underlying9]
  have h := run_loadCells_list (P := Try.prog) (w := w.alloc (.cells #[.int .u8 x] 5)) ⟨w.heap.size, 0, none⟩ [.int .u8 x] (cell_one_new w (.int .u8 x) 5)
  exact run_bytesToString _ _ 1 1 [x] (by simpa using h)
theorem cons_bytes (c : UInt8) (acc : List UInt8) : (⟨#[c]⟩ : ByteArray) ++ ⟨acc.toArray⟩ = ⟨(c :: acc).toArray⟩ := by
  rw [ByteArray.ext_iff]
  simp [ByteArray.data_append]

set_option maxHeartbeats 400000 in
theorem markText_any (k : Nat) (w : World) (hk : k ≤ 33554432) :
    Calls Try.prog 46 #[.int .i64 k] w fun e w' => e = .returned (.string (markT k)) ∧ Below w.heap.size w w' := by
  by_cases h0 : k = 0
  · subst h0
    go_enter Try.func46, Try.ntmps46
    go_wp2
    go_ret
    exact ⟨rfl, Below.refl _ _⟩
  · have hle : ¬ ((k : Int) ≤ 0) := by omega
    go_enter Try.func46, Try.ntmps46
    go_wp2
    go_loopw [0, 3] (fun i o w' => ∃ (j f : Nat) (acc : List UInt8), i = .int .i64 j ∧ o = .string ⟨acc.toArray⟩ ∧ j ≤ 33554432 ∧ j ≤ f ∧ f + acc.length ≤ 33554432 ∧ Hid (dg f j acc = dg k k []) ∧ Below w.heap.size w w') (fun i _ _ => (intOf i).toNat)
    case atStart => exact ⟨k, k, [], rfl, rfl, hk, Nat.le_refl _, by simpa using hk, rfl, Below.refl _ _⟩
    case round =>
      obtain ⟨j, f, acc, rfl, rfl, hj, hf, ha, H, hb⟩ := hrel
      by_cases hp : 0 < j
      · have hcv := conv_one (48 + (j : Int) % 10) wr
        obtain ⟨f, rfl⟩ : ∃ f', f = f' + 1 := ⟨f - 1, by omega⟩
        have H2 := Lib.hid (show dg f (j / 10) ((48 + UInt8.ofNat (j % 10)) :: acc) = dg k k [] by
          have h := H.out; rwa [dg_succ _ _ _ (by omega)] at h)
        go_wp2
        go_roundw
        case rel => exact ⟨j / 10, f, _, by go_num, congrArg Value.string (cons_bytes _ _), by omega, by omega, by simp; omega, H2.out, hb.alloc hb.size _⟩
        case measure => simp [intOf]; omega
      · obtain rfl : j = 0 := by omega
        have hf := Lib.hid (show markT k = ⟨(109 :: acc).toArray⟩ by
          have h := H.out; rw [dg_zero] at h; rw [h]; exact if_neg h0)
        go_wp2
        go_ret
        exact ⟨ret_str (by rw [hf.out]; exact cons_bytes _ _), hb⟩

set_option maxHeartbeats 400000 in
theorem markStringS_any (A : Option Addr) (n cap base k0 : Nat) (l : List ByteArray) (w : World) (ho : OwnV w base (.slice A n cap) l) (hn : n ≤ 1048576) (hk : k0 ≤ 16777216) :
    Calls Try.prog 17 #[.slice A n cap, .int .i64 k0] w fun e w' => e = .returned (.int .i64 ((k0 + n : Nat) : Int)) ∧ OwnV w' base (.slice A n cap) (marks k0 n) ∧ w.grownBy w' (Value.slice A n cap).ownBlock := by
  have HL := Lib.hid ho.strs.len
  go_enter Try.func17, Try.ntmps17
  go_wp2
  go_loopw [1, 5] (fun q i w' => ∃ j : Nat, i = .int .i64 j ∧ q = .int .i64 ((k0 + j : Nat) : Int) ∧ j ≤ n ∧ OwnV w' base (.slice A n cap) (markTo l k0 j) ∧ w.grownBy w' (Value.slice A n cap).ownBlock) (fun _ i _ => n - (intOf i).toNat)
  case atStart => exact ⟨0, rfl, by simp, by omega, by simpa [markTo, marks] using ho, ⟨rfl, rfl, rfl, Nat.le_refl _, fun _ _ _ => rfl⟩⟩
  case round =>
    obtain ⟨j, rfl, rfl, hj, h1, h2⟩ := hrel
    by_cases hlt : j < n
    · have hmk := Lib.hid (markTo_set l k0 j (by rw [HL.out]; exact hlt))
      have hms := markT_size (k0 + j)
      go_wp2_with fail
      refine (markText_any (k0 + j) _ (by omega)).mono ?_
      rintro e w1 ⟨rfl, b1⟩
      obtain ⟨g, rfl, hg1, hg2, ⟨u, hc⟩, hfz, hset⟩ := (h1.below b1).at_ hlt
      obtain ⟨o2, g2⟩ := hset (markT (k0 + j)) (by unfold maxLen; omega)
      rw [hmk.out] at o2
      go_wp2
      go_roundw
      case rel =>
        refine ⟨j + 1, by go_num, by go_num, by omega, o2, ?_⟩
        exact (h2.trans (grown_of_below b1 _)).trans g2
      case measure => simp [intOf]; omega
    · obtain rfl : j = n := by omega
      have hf := Lib.hid (markTo_all l k0)
      go_wp2
      go_ret
      refine ⟨rfl, ?_, h2⟩
      have h3 := hf.out
      rw [HL.out] at h3
      rw [← h3]
      exact h1

set_option maxHeartbeats 400000 in
theorem heldStringS_any (A : Option Addr) (n cap k0 : Nat) (w : World) (ho : Strs w A n (marks k0 n)) (hn : n ≤ 1048576) (hk : k0 ≤ 16777216) :
    Calls Try.prog 31 #[.slice A n cap, .int .i64 k0] w fun e w' => e = .returned (.int .i64 ((k0 + n : Nat) : Int)) ∧ Below w.heap.size w w' := by
  go_enter Try.func31, Try.ntmps31
  go_wp2
  go_loopw [1, 5] (fun q i w' => ∃ j : Nat, i = .int .i64 j ∧ q = .int .i64 ((k0 + j : Nat) : Int) ∧ j ≤ n ∧ Below w.heap.size w w') (fun _ i _ => n - (intOf i).toNat)
  case atStart => exact ⟨0, rfl, by simp, by omega, Below.refl _ _⟩
  case round =>
    obtain ⟨j, rfl, rfl, hj, hb⟩ := hrel
    by_cases hlt : j < n
    · obtain ⟨b, off, s, rfl, hs, hsz, hc⟩ := (ho.below hb).at_ hlt
      have hs2 : s = markT (k0 + j) := by rw [marks_get _ _ _ hlt] at hs; injection hs with hs; exact hs.symm
      subst hs2
      clear hs
      have hi0 : (0 : Int) ≤ (j : Int) := by omega
      have hi1 : (j : Int) < (n : Int) := by omega
      have hbq := beq_same (markT (k0 + j))
      go_wp2
      go_region_held3 (fun w' => w'.cell? ⟨b, off + j, none⟩ = some (.string (markT (k0 + j)))) (first | exact hc | exact cell_keep b1 hc | go_keep)
        (first | (go_at_call 46; refine (markText_any (k0 + j) _ (by omega)).mono ?_; rintro e w1 ⟨rfl, b1⟩))
      go_wp2
      go_roundw
      case rel => exact ⟨j + 1, by go_num, by go_num, by omega, hb.drew.next b1⟩
      case measure => simp [intOf]; omega
    · obtain rfl : j = n := by omega
      go_wp2
      go_ret
      exact ⟨rfl, hb⟩

end Go.Proofs.Ytgohaemmnpifbaa
