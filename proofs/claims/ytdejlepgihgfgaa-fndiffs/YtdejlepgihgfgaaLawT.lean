/-
  The laws' own small functions on texts: counted, copied, compared, marked.
-/
import Derived.Test.YtdejlepgihgfgaaProg
import Derived.Test.YtdejlepgihgfgaaBase
import Derived.Test.YtdejlepgihgfgaaMem
import Derived.Deep.RegionWith
import Derived.Deep.RegionHeld3
set_option linter.unusedSimpArgs false
set_option linter.unusedVariables false
namespace Go.Proofs.Ytdejlepgihgfgaa
open Go.RowKit M

theorem str_info : (Try.prog.info? 9).map (fun i => (i.zero, i.size, i.bytes)) = some (some (.string ByteArray.empty), 1, 16) := by kernel_rfl
theorem info_parts {P : Program} {t : TypeId} {z : Value} {s b : Nat} (h : (P.info? t).map (fun i => (i.zero, i.size, i.bytes)) = some (some z, s, b)) : ∃ i, P.info? t = some i ∧ i.zero = some z ∧ i.size = s ∧ i.bytes = b := by
  cases hi : P.info? t with
  | none => rw [hi] at h; cases h
  | some i => rw [hi] at h; simp at h; exact ⟨i, rfl, h.1, h.2.1, h.2.2⟩
theorem make_strs (n : Nat) (hn : n ≤ 1048576) (w : World) :
    (Instr.makeSlice 24 (.int .i64 (n : Int)) (.int .i64 (n : Int))).run Try.prog w = .ok (.slice (some ⟨w.heap.size, 0, none⟩) n n) (w.alloc (.cells (blanks n) 9)) := by
  obtain ⟨i, h1, h2, h3, h4⟩ := info_parts str_info
  exact run_make_strs 24 9 i Try.underlying24 h1 h2 h3 h4 n (by omega) w

theorem make_strs_sub (hi lo : Nat) (h : lo ≤ hi) (hn : hi ≤ 1048576) (w : World) :
    (Instr.makeSlice 24 (.int .i64 ((hi : Int) - (lo : Int))) (.int .i64 ((hi : Int) - (lo : Int)))).run Try.prog w = .ok (.slice (some ⟨w.heap.size, 0, none⟩) (hi - lo) (hi - lo)) (w.alloc (.cells (blanks (hi - lo)) 9)) := by
  rw [show (hi : Int) - (lo : Int) = ((hi - lo : Nat) : Int) from by omega]
  exact make_strs (hi - lo) (by omega) w
theorem cut_strs (a : Option Addr) (n c lo hi : Nat) (h1 : lo ≤ hi) (h2 : hi ≤ c) (w : World) :
    (Instr.slice 24 (.slice a n c) (some (.int .i64 (lo : Int))) (some (.int .i64 (hi : Int))) none).run Try.prog w = .ok (.slice (cutA a c lo) (hi - lo) (c - lo)) w := by
  obtain ⟨i, h3, h4, h5, h6⟩ := info_parts str_info
  exact run_cut Try.underlying24 h3 h5 a n c lo hi h1 h2 w

theorem app_strs {w : World} {ops : Array Oper} {rest : List Oper} {o : Oper} {a : Act} {Q : Exit → Act → World → Prop} (s x : Operand) (base : Nat) (v : Value) (l : List ByteArray) (hown : OwnV w base v l) (A : Option Addr) (m c : Nat) (r : List ByteArray) (hr : Strs w A m r)
    (hbound : l.length + m ≤ 4294967296) (hbase : base ≤ w.heap.size) (hgd : Region.wanted o (yielded ops a.tmps) = true) (ho : o.op = .call { callee := .builtin .append, args := #[s, x], argTypes := #[24, 24] }) (hs : a.eval s = v) (hx : a.eval x = .slice A m c)
    (h : ∀ v' w', OwnV w' base v' (l ++ r) → w.grownBy w' v.ownBlock → (v'.ownBlock = v.ownBlock ∨ v'.ownBlock = some w.heap.size) → wpList Try.prog ops Q rest (a.put o.dst v') w') : wpList Try.prog ops Q (o :: rest) a w := by
  obtain ⟨i, h1, h2, h3, h4⟩ := info_parts str_info
  exact wpList_app Try.underlying24 h1 h2 h3 h4 s x base v l hown A m c r hr hbound hbase hgd ho hs hx h



theorem eq_step {l r : List ByteArray} {k : Nat} {s t : ByteArray} (H : ∀ j s t, j < k → l[j]? = some s → r[j]? = some t → s = t) (hs : l[k]? = some s) (ht : r[k]? = some t) (h : s = t) :
    ∀ j s t, j < k + 1 → l[j]? = some s → r[j]? = some t → s = t := by
  intro j s' t' hj hs' ht'
  by_cases e : j = k
  · subst e; rw [hs] at hs'; rw [ht] at ht'; injection hs' with hs'; injection ht' with ht'; rw [← hs', ← ht', h]
  · exact H j s' t' (by omega) hs' ht'



theorem conv_one (x : Int) (w : World) : (convert 22 9 (.slice (some ⟨w.heap.size, 0, none⟩) 1 1)).run Try.prog (w.alloc (.cells #[.int .u8 x] 5)) = .ok (.string ⟨#[UInt8.ofNat x.toNat]⟩) (w.alloc (.cells #[.int .u8 x] 5)) := by
  rw [run_convert_bytes_string _ _ _ 5 _ _ _ Try.underlying22 Try.underlying5 Try.underlying9]
  have h := run_loadCells_list (P := Try.prog) (w := w.alloc (.cells #[.int .u8 x] 5)) ⟨w.heap.size, 0, none⟩ [.int .u8 x] (cell_one_new w (.int .u8 x) 5)
  exact run_bytesToString _ _ 1 1 [x] (by simpa using h)
theorem cons_bytes (c : UInt8) (acc : List UInt8) : (⟨#[c]⟩ : ByteArray) ++ ⟨acc.toArray⟩ = ⟨(c :: acc).toArray⟩ := by
  rw [ByteArray.ext_iff]
  simp [ByteArray.data_append]




set_option maxHeartbeats 400000 in
theorem sameTexts_any (a b : Option Addr) (n m c d : Nat) (l r : List ByteArray) (w : World) (hl : Strs w a n l) (hr : Strs w b m r) :
    Calls Try.prog 15 #[.slice a n c, .slice b m d] w fun e w' => e = .returned (.bool (eqT l r)) ∧ Drawn w w' := by
  have HL := Lib.hid hl.len
  have HR := Lib.hid hr.len
  have hlim := hl.lim
  unfold maxLen at hlim
  by_cases hnm : n = m
  · subst hnm
    have hq : ((n : Int) != (n : Int)) = false := by simp
    go_enter Try.func15, Try.ntmps15
    go_wp2
    go_loopw [13] (fun i w' => ∃ k : Nat, i = .int .i64 k ∧ k ≤ n ∧ Hid (∀ j s t, j < k → l[j]? = some s → r[j]? = some t → s = t) ∧ Drawn w w') (fun i _ => n - (intOf i).toNat)
    case atStart => exact ⟨0, rfl, by omega, fun j s t h => by omega, Drawn.refl _⟩
    case round =>
      obtain ⟨k, rfl, hk, H, hb⟩ := hrel
      by_cases hlt : k < n
      · obtain ⟨b1, off1, s, rfl, hs, hsz, hc1⟩ := (hl.below hb.below).at_ hlt
        obtain ⟨b2, off2, t, rfl, ht, htz, hc2⟩ := (hr.below hb.below).at_ hlt
        have HS := Lib.hid hs
        have HT := Lib.hid ht
        clear hs ht
        have hi0 : (0 : Int) ≤ (k : Int) := by omega
        have hi1 : (k : Int) < (n : Int) := by omega
        by_cases hst : s = t
        · have hb2 : (s.toList == t.toList) = true := by rw [hst]; simp
          have HST := Lib.hid hst
          clear hst
          go_wp2
          go_quiet (fail)
          go_wp2
          go_roundw
          case rel => exact ⟨k + 1, by go_num, by omega, eq_step H.out HS.out HT.out HST.out, hb.more _⟩
          case measure => simp [intOf]; omega
        · have hb2 := beq_other hst
          have hf := Lib.hid (eqT_at HS.out HT.out hst)
          clear hst
          go_wp2
          go_quiet (fail)
          go_wp2
          go_ret
          exact ⟨ret_bool hf.out.symm, hb.more _⟩
      · have hf := Lib.hid (eqT_all (fun j s t h1 h2 => H.out j s t (by have := (List.getElem?_eq_some_iff.1 h1).1; have := HL.out; omega) h1 h2) (HL.out.trans HR.out.symm))
        go_wp2
        go_ret
        exact ⟨ret_bool hf.out.symm, hb⟩
  · have hq : ((n : Int) != (m : Int)) = true := by simp; omega
    have hf := Lib.hid (eqT_len (l := l) (r := r) (by rw [HL.out, HR.out]; exact hnm))
    go_enter Try.func15, Try.ntmps15
    go_wp2
    go_ret
    exact ⟨ret_bool hf.out.symm, Drawn.refl _⟩

end Go.Proofs.Ytdejlepgihgfgaa
