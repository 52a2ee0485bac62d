/-
  ReadUnified, the model's.
-/
import Derived.Test.YtkamenidgkjodaaGreatDoorQcUReadI
import Derived.Test.YtkamenidgkjodaaGreatDoorQcLinesS
set_option linter.unusedSimpArgs false
set_option linter.unusedVariables false
namespace Go.Proofs.YtkamenidgkjodaaGreatDoor
open Go.RowKit M

theorem split_step32 {l : List UInt8} {f k : Nat} (h1 : f ≤ k) (h2 : k < l.length) (hc : l[k] = 32) (hn : ∀ j, f ≤ j → j < k → l[j]? ≠ some 32) :
    splitB 32 (l.drop f) = ((l.drop f).take (k - f)) :: splitB 32 (l.drop (k + 1)) := by
  have e := drop_parts l f k h1 h2
  rw [hc] at e
  rw [e, split_hit 32 _ _ (fun hm => by
    obtain ⟨j, a, b, c⟩ := mem_part hm
    exact hn j a b c)]
  congr 1
  rw [← e]
theorem split_last32 {l : List UInt8} {f : Nat} (hn : ∀ j, f ≤ j → j < l.length → l[j]? ≠ some 32) : splitB 32 (l.drop f) = [l.drop f] := by
  refine split_none 32 _ (fun hm => ?_)
  obtain ⟨i, hi⟩ := List.mem_iff_getElem?.1 hm
  rw [List.getElem?_drop] at hi
  have hlt : f + i < l.length := by
    apply Decidable.byContradiction
    intro h
    rw [List.getElem?_eq_none (by omega)] at hi
    cases hi
  exact hn (f + i) (by omega) hlt hi

set_option maxHeartbeats 1600000 in
theorem l1Split32_any (s : ByteArray) (hs : s.size ≤ 1048576) (w : World) :
    Calls Tryz.prog 91 #[.string s, .int .u8 32] w fun e w' => ∃ v, e = .returned v ∧ OwnV w' w.heap.size v ((splitB 32 s.data.toList).map bs) ∧ Below w.heap.size w w' := by
  have hlen : s.data.toList.length = s.size := by simp
  have HLEN := Lib.hid hlen
  clear hlen
  go_enter Tryz.func91, Tryz.ntmps91
  go_wp2
  go_loopw [5, 6, 7] (fun o f i w' => ∃ (v : Value) (L : List (List UInt8)) (a k : Nat), v = o ∧ f = .int .i64 a ∧ i = .int .i64 k ∧ a ≤ k ∧ k ≤ s.size ∧ L.length ≤ k ∧ OwnV w' w.heap.size v (L.map bs) ∧ Below w.heap.size w w' ∧ Hid (splitB 32 s.data.toList = L ++ splitB 32 (s.data.toList.drop a)) ∧ Hid (∀ j, a ≤ j → j < k → s.data.toList[j]? ≠ some 32)) (fun _ _ i _ => s.size - (intOf i).toNat)
  case atStart => exact ⟨_, [], 0, 0, rfl, rfl, rfl, Nat.le_refl _, Nat.zero_le _, Nat.le_refl _, OwnV.nil_, Below.refl _ _, rfl, fun j _ h => by omega⟩
  case round =>
    obtain ⟨v, L, a, k, rfl, rfl, rfl, hak, hk, hL, ho, hb, HS, HN⟩ := hrel
    have hz := hb.size
    by_cases hlt : k < s.size
    · by_cases hc : (s[k]'hlt).toNat = 32
      · have hcb : ((((s[k]'hlt).toNat : Nat) : Int) == 32) = true := by simp [hc]
        have hck : (s[k]'hlt) = 32 := UInt8.toNat.inj (by simpa using hc)
        obtain ⟨X, hX⟩ : ∃ X, X = s.extract a k := ⟨_, rfl⟩
        have hXs : X.size ≤ 1048576 := by rw [hX, ByteArray.size_extract]; omega
        have HX := Lib.hid (hX.trans (extract_bs s a k))
        have HX0 := Lib.hid hX
        have hst := strs_one wr X (by unfold maxLen; omega)
        have HS2 := Lib.hid (split_step32 hak (by rw [HLEN.out]; exact hlt) (by have := get_at s k hlt; rw [List.getElem?_eq_getElem (by rw [HLEN.out]; exact hlt)] at this; rw [Option.some.inj this, hck]) HN.out)
        clear hc hck
        go_wp2_with (at_builtin; rw [← HX0.out]; refine app_strs (.tmp 19) (.tmp 24) w.heap.size v (L.map bs) (ho.below (below_alloc _ _)) _ 1 1 [X] hst (by simp; omega) (by simp; omega) rfl rfl rfl rfl ?_; intro v3 w3 o3 g3 p3)
        have HBL := Lib.hid ((hb.next (below_alloc wr (.cells #[Value.string X] 9))).grown g3 (by simp; omega) (fun b e => (ho.lt e).1))
        go_roundw
        case rel =>
          refine ⟨v3, L ++ [(s.data.toList.drop a).take (k - a)], k + 1, k + 1, rfl, by go_num, by go_num, Nat.le_refl _, by omega, by simp; omega, ?_, HBL.out, ?_, fun j h1 h2 => by omega⟩
          · rw [List.map_append, List.map_cons, List.map_nil, ← HX.out]; exact o3
          · exact (show _ = _ by rw [HS.out, HS2.out, List.append_assoc]; rfl)
        case measure => simp [intOf]; omega
      · have hcb : ((((s[k]'hlt).toNat : Nat) : Int) == 32) = false := by simp; omega
        go_wp2
        go_roundw
        case rel =>
          refine ⟨v, L, a, k + 1, rfl, rfl, by go_num, by omega, by omega, by omega, ho, hb, HS.out, fun j h1 h2 => ?_⟩
          by_cases e : j = k
          · subst e
            rw [get_at s j hlt]
            intro e2
            exact hc (by rw [Option.some.inj e2]; rfl)
          · exact HN.out j h1 (by omega)
        case measure => simp [intOf]; omega
    · obtain rfl : k = s.size := by omega
      obtain ⟨X, hX⟩ : ∃ X, X = s.extract a s.size := ⟨_, rfl⟩
      have hXs : X.size ≤ 1048576 := by rw [hX, ByteArray.size_extract]; omega
      have HX := Lib.hid (show X = bs (s.data.toList.drop a) by rw [hX, extract_bs, List.take_of_length_le (by rw [List.length_drop, HLEN.out]; omega)])
      have HX0 := Lib.hid hX
      have hst := strs_one wr X (by unfold maxLen; omega)
      have HS2 := Lib.hid (split_last32 (l := s.data.toList) (f := a) (by rw [HLEN.out]; exact HN.out))
      clear hX
      go_wp2_with (at_builtin; rw [← HX0.out]; refine app_strs (.tmp 28) (.tmp 32) w.heap.size v (L.map bs) (ho.below (below_alloc _ _)) _ 1 1 [X] hst (by simp; omega) (by simp; omega) rfl rfl rfl rfl ?_; intro v3 w3 o3 g3 p3)
      have HBL := Lib.hid ((hb.next (below_alloc wr (.cells #[Value.string X] 9))).grown g3 (by simp; omega) (fun b e => (ho.lt e).1))
      go_ret
      refine ⟨v3, rfl, ?_, HBL.out⟩
      rw [HS.out, HS2.out, List.map_append, List.map_cons, List.map_nil, ← HX.out]
      exact o3

theorem l7Kind_any (b : UInt8) (w : World) :
    Calls Tryz.prog 93 #[.int .u8 (b.toNat : Int)] w fun e w' => e = .returned (.int .i64 (kindOf b)) ∧ w = w' := by
  by_cases h1 : b = 32
  · subst h1
    go_enter Tryz.func93, Tryz.ntmps93
    go_wp2
    go_ret
    exact ⟨rfl, rfl⟩
  · have n1 : (((b.toNat : Nat) : Int) == 32) = false := by
      have : b.toNat ≠ 32 := fun e => h1 (UInt8.toNat.inj (by simpa using e))
      simp; omega
    by_cases h2 : b = 45
    · subst h2
      go_enter Tryz.func93, Tryz.ntmps93
      go_wp2
      go_ret
      exact ⟨rfl, rfl⟩
    · have n2 : (((b.toNat : Nat) : Int) == 45) = false := by
        have : b.toNat ≠ 45 := fun e => h2 (UInt8.toNat.inj (by simpa using e))
        simp; omega
      by_cases h3 : b = 43
      · subst h3
        go_enter Tryz.func93, Tryz.ntmps93
        go_wp2
        go_ret
        exact ⟨rfl, rfl⟩
      · have n3 : (((b.toNat : Nat) : Int) == 43) = false := by
          have : b.toNat ≠ 43 := fun e => h3 (UInt8.toNat.inj (by simpa using e))
          simp; omega
        have hk : kindOf b = 0 := by unfold kindOf; rw [if_neg h1, if_neg h2, if_neg h3]
        have HK := Lib.hid hk
        clear h1 h2 h3 hk
        go_enter Tryz.func93, Tryz.ntmps93
        go_wp2
        go_ret
        exact ⟨by rw [HK.out]; rfl, rfl⟩

set_option maxHeartbeats 400000 in
theorem l1TextU_any (a : Option Addr) (n c : Nat) (l : List ByteArray) (w : World) (hl : Strs w a n l) (ht : total l ≤ 4294967296) :
    Calls Tryz.prog 51 #[.slice a n c] w fun e w' => e = .returned (.string (cat l)) ∧ w = w' := by
  have HL := Lib.hid hl.len
  have hlim := hl.lim
  unfold maxLen at hlim
  go_enter Tryz.func51, Tryz.ntmps51
  go_wp2
  go_loop [3, 8] (fun t i => ∃ k : Nat, ∃ T : ByteArray, i = .int .i64 k ∧ t = .string T ∧ k ≤ n ∧ Hid (T = cat (l.take k))) (fun _ i => n - (intOf i).toNat)
  case atStart => exact ⟨0, _, rfl, rfl, by omega, rfl⟩
  case round =>
    obtain ⟨k, T, rfl, rfl, hk, H⟩ := hrel
    by_cases hlt : k < n
    · obtain ⟨b, off, s, rfl, hs, hsz, hc⟩ := hl.at_ hlt
      have HS := Lib.hid (cat_take_succ hs)
      have hsum : T.size + s.size ≤ 4294967296 := by
        have h1 := total_take_succ hs
        have h2 := total_take_le l (k + 1)
        have h3 := cat_size (l.take k)
        have h4 : T.size = (cat (l.take k)).size := by rw [H.out]
        omega
      clear hs
      go_wp2
      go_round
      case rel => exact ⟨k + 1, _, by go_num, rfl, by omega, show _ = _ by rw [H.out]; exact HS.out⟩
      case measure => simp [intOf]; omega
    · have hf := Lib.hid (show T = cat l by rw [H.out, List.take_of_length_le (by rw [HL.out]; omega)])
      go_wp2
      go_ret
      exact ⟨ret_str hf.out, rfl⟩

theorem cut_length (s : List UInt8) : ∀ cur, (cutGo cur s).length ≤ s.length + (if cur = [] then 0 else 1) := by
  induction s with
  | nil => intro cur; rw [cutGo]; split <;> simp_all
  | cons c s ih =>
    intro cur
    rw [cutGo]
    split
    · have := ih []
      simp at this ⊢
      split <;> omega
    · have := ih (cur ++ [c])
      simp at this ⊢
      split <;> omega
theorem size_le_total {x : ByteArray} : ∀ {l : List ByteArray}, x ∈ l → x.size ≤ total l
  | [], h => by simp at h
  | y :: l, h => by
    rw [total]
    rcases List.mem_cons.1 h with e | e
    · rw [e]; omega
    · have := size_le_total e; omega
theorem cut_sizes (s : ByteArray) : ∀ x ∈ cutOf s, 1 ≤ x.size ∧ x.size ≤ s.size := by
  intro x hx
  obtain ⟨k, hk, e⟩ := List.getElem_of_mem hx
  have h1 := (cutGo_prop s.data.toList [] (by simp) k x (by rw [show cutGo [] s.data.toList = cutOf s from rfl, List.getElem?_eq_getElem hk, e])).1
  have h2 := size_le_total hx
  rw [← cat_size, cut_cat] at h2
  unfold propB at h1
  simp only [Bool.and_eq_true, decide_eq_true_eq] at h1
  exact ⟨h1.1, h2⟩
theorem cut_count (s : ByteArray) : (cutOf s).length ≤ s.size := by
  have := cut_length s.data.toList []
  rw [Lib.size_eq]
  simpa [cutOf] using this
theorem plain_list (s : ByteArray) : (plain s).data.toList = plainL s.data.toList := by
  unfold plain plainL
  have e : endsL s.data.toList = endsB s := rfl
  rw [e]
  cases h : endsB s
  · rw [if_neg (by simp), if_neg (by simp)]
  · rw [if_pos rfl, if_pos rfl, extract_bs, bs_list, List.drop_zero, Nat.sub_zero, List.dropLast_eq_take, Lib.size_eq]
theorem plain_le (s : ByteArray) : (plain s).size ≤ s.size := by
  unfold plain
  split
  · rw [ByteArray.size_extract]; omega
  · exact Nat.le_refl _

theorem lines_of : ∀ (L : List ByteArray), (∀ k p, L[k]? = some p → propB p = true ∧ (k + 1 < L.length → endsB p = true)) → LinesOk (L.map (·.data.toList))
  | [], _ => trivial
  | x :: L, h => by
    refine ⟨⟨?_, ?_, ?_⟩, lines_of L fun k p hp => ⟨(h (k + 1) p (by simpa using hp)).1, fun hk => (h (k + 1) p (by simpa using hp)).2 (by simp; omega)⟩⟩
    · have := (h 0 x rfl).1
      unfold propB at this
      simp only [Bool.and_eq_true, decide_eq_true_eq] at this
      intro e
      have h1 := Lib.size_eq x
      have e' : x.data.toList = [] := e
      rw [e', List.length_nil] at h1
      omega
    · have := (h 0 x rfl).1
      unfold propB at this
      simp only [Bool.and_eq_true, List.all_eq_true, bne_iff_ne] at this
      exact fun e => this.2 10 e rfl
    · intro hne
      have : L ≠ [] := fun e => hne (by rw [e]; rfl)
      exact (h 0 x rfl).2 (by have := List.length_pos_iff.2 this; simp; omega)
theorem lines_cut (s : ByteArray) : LinesOk ((cutOf s).map (·.data.toList)) := lines_of _ (cutGo_prop s.data.toList [] (by simp))
theorem flat_cut (s : ByteArray) : ((cutOf s).map (·.data.toList)).flatten = s.data.toList := by
  have := congrArg (·.data.toList) (cut_cat s)
  simpa [cat, catL] using this

/-- What the model's reader of rows leaves. -/
def TakePost (old fresh : Nat) (L : List ByteArray) (w : World) (e : Ending) (w' : World) : Prop := ∃ v O, ∃ n : Nat, e = .returned (.tuple #[v, .int .i64 (n : Int)]) ∧ OwnRw w' w.heap.size v O ∧ TakeOut old fresh (L.map (·.data.toList)) O n ∧ Below w.heap.size w w'
theorem lines_at {L : List ByteArray} {k : Nat} {t : ByteArray} (h : L[k]? = some t) : (L.map (·.data.toList))[k]? = some t.data.toList := by simp [h]
theorem no_lone {L : List (List UInt8)} (hL : LinesOk L) {n : Nat} {b : UInt8} (h : L[n]? = some [b]) {m : List UInt8} (h2 : L[n + 1]? = some m) : kindOf b = 0 := by
  have hd := hL.drop n
  have e : L.drop n = [b] :: L.drop (n + 1) := drop_at h
  rw [e] at hd
  have hne : L.drop (n + 1) ≠ [] := by
    intro e2
    have := (List.getElem?_eq_some_iff.1 h2).1
    have := List.drop_eq_nil_iff.1 e2
    omega
  have := hd.1.2.2 hne
  have hb : b = 10 := by simpa [endsL] using this
  rw [hb]; rfl

set_option maxHeartbeats 8000000 in
set_option maxRecDepth 100000 in
theorem l7Rows_any (A : Option Addr) (m c : Nat) (L : List ByteArray) (old fresh : Nat) (ho : old ≤ 999) (hf : fresh ≤ 999) (w : World) (hl : Strs w A m L) (hL : LinesOk (L.map (·.data.toList))) (hm : m ≤ 3000) (hsz : ∀ x ∈ L, x.size ≤ 3000) :
    Calls Tryz.prog 49 #[.slice A m c, .int .i64 (old : Int), .int .i64 (fresh : Int)] w fun e w' => TakePost old fresh L w e w' := by
  have HL := Lib.hid hl.len
  have HLK := Lib.hid hL
  have HLM := Lib.hid (show (L.map (·.data.toList)).length = m by rw [List.length_map]; exact hl.len)
  have HSZ := Lib.hid hsz
  clear hL hsz
  go_enter Tryz.func49, Tryz.ntmps49
  go_wp2
  go_loopw [1, 2, 8, 9] (fun ov cv lv nv w' => ∃ (v : Value) (O : List Rw) (n : Nat) (o1 c1 : Int), ov = .int .i64 o1 ∧ cv = .int .i64 c1 ∧ v = lv ∧ nv = .int .i64 (n : Int) ∧ n ≤ m ∧ Hid (OwnRw w' w.heap.size v O) ∧ Hid (TakeAt old fresh (L.map (·.data.toList)) O n o1 c1) ∧ Below w.heap.size w w') (fun _ _ _ nv _ => m - (intOf nv).toNat)
  case atStart => exact ⟨_, [], 0, old, fresh, rfl, rfl, rfl, rfl, by omega, Lib.hid OwnRw.nil_, Lib.hid (TakeAt.start _ _ _), Below.refl _ _⟩
  case round =>
    obtain ⟨v, O, n, o1, c1, rfl, rfl, rfl, rfl, hn, HO, HT, hb⟩ := hrel
    have hmany := HT.out.many
    have l3 := lw_len 3 O
    have l2 := lw_len 2 O
    have ho1 := HT.out.olds
    have hc1 := HT.out.news
    have hw0 : IntKind.i64.wrap (o1 + c1) = o1 + c1 := by rw [IntKind.wrap_i64]; omega
    have hw1 : IntKind.i64.wrap (o1 - 1) = o1 - 1 := by rw [IntKind.wrap_i64]; omega
    have hw2 : IntKind.i64.wrap (c1 - 1) = c1 - 1 := by rw [IntKind.wrap_i64]; omega
    have hol : O.length ≤ 1048576 := by omega
    have hob : -3000 ≤ o1 ∧ o1 ≤ 999 ∧ -3000 ≤ c1 ∧ c1 ≤ 999 := by omega
    clear ho1 hc1 l3 l2 hmany
    have BB := Lib.hid hb
    by_cases hlt : n < m
    · by_cases hpos : 0 < o1 + c1
      · have hp := eq_true hpos
        obtain ⟨b0, off0, t, rfl, ht, htz, hct⟩ := (hl.below hb).at_ hlt
        have HT0 := Lib.hid (lines_at ht)
        have hts := Lib.hid (HSZ.out t (List.mem_of_getElem? ht))
        obtain ⟨bb, ss, HTL⟩ : ∃ bb ss, Hid (t.data.toList = bb :: ss) := by
          have hd := HLK.out.drop n
          rw [drop_at HT0.out] at hd
          have h0 := hd.1.1
          cases e : t.data.toList with
          | nil => exact absurd e h0
          | cons bb ss => exact ⟨bb, ss, rfl⟩
        have h0s : 0 < t.size := by have := Lib.size_eq t; rw [HTL.out] at this; simp at this; omega
        have HB0 := Lib.hid (show t[0]'h0s = bb by
          have := get_at t 0 h0s
          rw [HTL.out] at this
          injection this with this
          exact this.symm)
        have HSL := Lib.hid (show ss.length ≤ 3000 by have := Lib.size_eq t; rw [HTL.out] at this; simp at this; have := hts.out; omega)
        have HX1 := Lib.hid (show t.extract 1 t.size = bs ss by rw [extract_bs, HTL.out]; have := Lib.size_eq t; rw [HTL.out] at this; simp at this; rw [List.drop_succ_cons, List.drop_zero, List.take_of_length_le (by omega)])
        rw [HTL.out] at HT0
        have hn3 : n ≤ 3000 := by omega
        clear ht htz
        obtain ⟨K, HK⟩ : ∃ K, Hid (kindOf bb = K) := ⟨_, rfl⟩
        have HKC := Lib.hid (l7Kind_any bb)
        rw [HK.out] at HKC
        by_cases hk0 : K = 0
        · have HE := Lib.hid (HT.out.ends HLK.out (.inr (.inr ⟨bb, ss, HT0.out, by rw [HK.out]; exact hk0⟩)))
          have q0 : (K == 0) = true := by simp [hk0]
          clear hk0 hpos
          go_wp2_with fail
          rw [HB0.out]
          refine (HKC.out _).mono ?_
          rintro e w4 ⟨rfl, rfl⟩
          go_wp2
          go_ret2
          exact ⟨_, O, n, rfl, HO.out, HE.out, hb⟩
        · have q0 : (K == 0) = false := by simp [hk0]
          obtain ⟨k1, k3, _⟩ := kindOf_sign (b := bb) (by rw [HK.out]; exact hk0)
          rw [HK.out] at k1 k3
          have HPOS := Lib.hid hpos
          have HKN := Lib.hid (show kindOf bb ≠ 0 by rw [HK.out]; exact hk0)
          have hx1 := HX1.out
          have hbz : (bs ss).size = ss.length := bs_size ss
          by_cases hn1 : n + 1 < m
          · obtain ⟨b2, off2, u, e9, hu, huz, hcu⟩ := (hl.below hb).at_ hn1
            injection e9 with e9
            injection e9 with e9 e10
            subst e9 e10
            have HU0 := Lib.hid (lines_at hu)
            have hn1i : (n : Int) + 1 < (m : Int) := by omega
            clear hu huz
            by_cases hun : u = ⟨#[92, 32, 110, 111, 110, 101, 10]⟩
            · have hss : ss ≠ [] := by
                intro e
                have h1 := HT0.out
                rw [e] at h1
                exact HKN.out (no_lone HLK.out h1 HU0.out)
              have qs := some_left hss
              have HS0 := Lib.hid hss
              have HUN := Lib.hid (show (L.map (·.data.toList))[n + 1]? = some noneL by rw [HU0.out, hun]; rfl)
              subst hun
              have hs1 := List.length_pos_iff.2 hss
              have hw9 : IntKind.i64.wrap ((ss.length : Int) - 1) = ((ss.length - 1 : Nat) : Int) := by rw [IntKind.wrap_i64]; have := HSL.out; omega
              have hx2 : (bs ss).extract 0 (ss.length - 1) = bs ss.dropLast := by rw [extract_bs, bs_list, List.drop_zero, Nat.sub_zero, List.dropLast_eq_take]
              clear hss
              obtain ⟨XS, HXS⟩ : ∃ XS, Hid (bs ss.dropLast = XS) := ⟨_, rfl⟩
              have hxs := HXS.out
              have HXO := Lib.hid (show RwOk ⟨K, XS⟩ from ⟨⟨by dsimp only; omega, by dsimp only; omega⟩, by dsimp only; rw [← HXS.out, bs_size]; have := HSL.out; unfold maxLen; simp; omega⟩)
              have HN := Lib.hid (show TakeAt old fresh (L.map (·.data.toList)) (O ++ [⟨K, XS⟩]) (n + 2) (o1 - oldN K) (c1 - newN K) by
                have := HT.out.next2 HLK.out HT0.out HKN.out HPOS.out HUN.out HS0.out
                rw [← HXS.out, ← HK.out]
                exact this)
              have BA := Lib.hid (below_alloc wr (.cells #[.int .i64 K, .string XS] 62))
              have HOA := Lib.hid (HO.out.below BA.out)
              have ha0 := Lib.hid (show (wr.alloc (.cells #[.int .i64 K, .string XS] 62)).cell? ⟨wr.heap.size, 0, none⟩ = some (.int .i64 K) by simp)
              have ha1 := Lib.hid (show (wr.alloc (.cells #[.int .i64 K, .string XS] 62)).cell? ⟨wr.heap.size, 1, none⟩ = some (.string XS) by simp)
              have haB := Lib.hid (show w.heap.size ≤ (wr.alloc (.cells #[.int .i64 K, .string XS] 62)).heap.size from (BB.out.next BA.out).size)
              clear hpos hob
              rcases (by omega : K = 1 ∨ K = 2 ∨ K = 3) with hk | hk | hk
              · have q3 : (K != 3) = true := by simp [hk]
                have q2 : (K != 2) = true := by simp [hk]
                have HNX := Lib.hid (show TakeAt old fresh (L.map (·.data.toList)) (O ++ [⟨K, XS⟩]) (n + 2) (o1 - 1) (c1 - 1) by have := HN.out; rw [hk] at this; rw [hk]; simpa [oldN, newN] using this)
                clear hk k1 k3 hk0
                go_wp2_with (first
                  | (go_at_call 93; rw [HB0.out]; refine (HKC.out _).mono ?_; rintro e w4 ⟨rfl, rfl⟩)
                  | (at_builtin
                     refine wpList_rw (.tmp 67) (.tmp 71) w.heap.size v O HOA.out ⟨K, XS⟩ HXO.out wr.heap.size ha0.out ha1.out hol haB.out rfl rfl rfl rfl ?_
                     intro v9 w9 o9 g9 p9
                     have HO9 := Lib.hid o9
                     have HB9 := Lib.hid (Below.grown (BB.out.next BA.out) g9 haB.out (fun g e => (HOA.out.lt e).1))
                     clear o9 g9 p9)
                  | fail)
                go_roundw
                case rel => exact ⟨v9, O ++ [⟨K, XS⟩], n + 2, o1 - 1, c1 - 1, rfl, rfl, rfl, by go_num, by omega, HO9, HNX, HB9.out⟩
                case measure => simp [intOf]; omega
              · have q3 : (K != 3) = true := by simp [hk]
                have q2 : (K != 2) = false := by simp [hk]
                have HNX := Lib.hid (show TakeAt old fresh (L.map (·.data.toList)) (O ++ [⟨K, XS⟩]) (n + 2) (o1 - 1) c1 by have := HN.out; rw [hk] at this; rw [hk]; simpa [oldN, newN] using this)
                clear hk k1 k3 hk0
                go_wp2_with (first
                  | (go_at_call 93; rw [HB0.out]; refine (HKC.out _).mono ?_; rintro e w4 ⟨rfl, rfl⟩)
                  | (at_builtin
                     refine wpList_rw (.tmp 67) (.tmp 71) w.heap.size v O HOA.out ⟨K, XS⟩ HXO.out wr.heap.size ha0.out ha1.out hol haB.out rfl rfl rfl rfl ?_
                     intro v9 w9 o9 g9 p9
                     have HO9 := Lib.hid o9
                     have HB9 := Lib.hid (Below.grown (BB.out.next BA.out) g9 haB.out (fun g e => (HOA.out.lt e).1))
                     clear o9 g9 p9)
                  | fail)
                go_roundw
                case rel => exact ⟨v9, O ++ [⟨K, XS⟩], n + 2, o1 - 1, c1, rfl, rfl, rfl, by go_num, by omega, HO9, HNX, HB9.out⟩
                case measure => simp [intOf]; omega
              · have q3 : (K != 3) = false := by simp [hk]
                have q2 : (K != 2) = true := by simp [hk]
                have HNX := Lib.hid (show TakeAt old fresh (L.map (·.data.toList)) (O ++ [⟨K, XS⟩]) (n + 2) o1 (c1 - 1) by have := HN.out; rw [hk] at this; rw [hk]; simpa [oldN, newN] using this)
                clear hk k1 k3 hk0
                go_wp2_with (first
                  | (go_at_call 93; rw [HB0.out]; refine (HKC.out _).mono ?_; rintro e w4 ⟨rfl, rfl⟩)
                  | (at_builtin
                     refine wpList_rw (.tmp 67) (.tmp 71) w.heap.size v O HOA.out ⟨K, XS⟩ HXO.out wr.heap.size ha0.out ha1.out hol haB.out rfl rfl rfl rfl ?_
                     intro v9 w9 o9 g9 p9
                     have HO9 := Lib.hid o9
                     have HB9 := Lib.hid (Below.grown (BB.out.next BA.out) g9 haB.out (fun g e => (HOA.out.lt e).1))
                     clear o9 g9 p9)
                  | fail)
                go_roundw
                case rel => exact ⟨v9, O ++ [⟨K, XS⟩], n + 2, o1, c1 - 1, rfl, rfl, rfl, by go_num, by omega, HO9, HNX, HB9.out⟩
                case measure => simp [intOf]; omega
            · have qu : (u.toList == [92, 32, 110, 111, 110, 101, 10]) = false := by
                rw [ByteArray.toList_eq, beq_eq_false_iff_ne]
                intro e
                exact hun (by apply ByteArray.ext; apply Array.ext'; exact e)
              have HUN := Lib.hid (show (L.map (·.data.toList))[n + 1]? ≠ some noneL by
                rw [HU0.out]
                intro e
                injection e with e
                exact hun (by apply ByteArray.ext; apply Array.ext'; exact e))
              clear hun
              obtain ⟨XS, HXS⟩ : ∃ XS, Hid (bs ss = XS) := ⟨_, rfl⟩
              have hxs := HXS.out
              have HXO := Lib.hid (show RwOk ⟨K, XS⟩ from ⟨⟨by dsimp only; omega, by dsimp only; omega⟩, by dsimp only; rw [← HXS.out, bs_size]; have := HSL.out; unfold maxLen; simp; omega⟩)
              have HN := Lib.hid (show TakeAt old fresh (L.map (·.data.toList)) (O ++ [⟨K, XS⟩]) (n + 1) (o1 - oldN K) (c1 - newN K) by
                have := HT.out.next HLK.out HT0.out HKN.out HPOS.out HUN.out
                rw [← HXS.out, ← HK.out]
                exact this)
              have BA := Lib.hid (below_alloc wr (.cells #[.int .i64 K, .string XS] 62))
              have HOA := Lib.hid (HO.out.below BA.out)
              have ha0 := Lib.hid (show (wr.alloc (.cells #[.int .i64 K, .string XS] 62)).cell? ⟨wr.heap.size, 0, none⟩ = some (.int .i64 K) by simp)
              have ha1 := Lib.hid (show (wr.alloc (.cells #[.int .i64 K, .string XS] 62)).cell? ⟨wr.heap.size, 1, none⟩ = some (.string XS) by simp)
              have haB := Lib.hid (show w.heap.size ≤ (wr.alloc (.cells #[.int .i64 K, .string XS] 62)).heap.size from (BB.out.next BA.out).size)
              clear hpos hob
              rcases (by omega : K = 1 ∨ K = 2 ∨ K = 3) with hk | hk | hk
              · have q3 : (K != 3) = true := by simp [hk]
                have q2 : (K != 2) = true := by simp [hk]
                have HNX := Lib.hid (show TakeAt old fresh (L.map (·.data.toList)) (O ++ [⟨K, XS⟩]) (n + 1) (o1 - 1) (c1 - 1) by have := HN.out; rw [hk] at this; rw [hk]; simpa [oldN, newN] using this)
                clear hk k1 k3 hk0
                go_wp2_with (first
                  | (go_at_call 93; rw [HB0.out]; refine (HKC.out _).mono ?_; rintro e w4 ⟨rfl, rfl⟩)
                  | (at_builtin
                     refine wpList_rw (.tmp 67) (.tmp 71) w.heap.size v O HOA.out ⟨K, XS⟩ HXO.out wr.heap.size ha0.out ha1.out hol haB.out rfl rfl rfl rfl ?_
                     intro v9 w9 o9 g9 p9
                     have HO9 := Lib.hid o9
                     have HB9 := Lib.hid (Below.grown (BB.out.next BA.out) g9 haB.out (fun g e => (HOA.out.lt e).1))
                     clear o9 g9 p9)
                  | fail)
                go_roundw
                case rel => exact ⟨v9, O ++ [⟨K, XS⟩], n + 1, o1 - 1, c1 - 1, rfl, rfl, rfl, by go_num, by omega, HO9, HNX, HB9.out⟩
                case measure => simp [intOf]; omega
              · have q3 : (K != 3) = true := by simp [hk]
                have q2 : (K != 2) = false := by simp [hk]
                have HNX := Lib.hid (show TakeAt old fresh (L.map (·.data.toList)) (O ++ [⟨K, XS⟩]) (n + 1) (o1 - 1) c1 by have := HN.out; rw [hk] at this; rw [hk]; simpa [oldN, newN] using this)
                clear hk k1 k3 hk0
                go_wp2_with (first
                  | (go_at_call 93; rw [HB0.out]; refine (HKC.out _).mono ?_; rintro e w4 ⟨rfl, rfl⟩)
                  | (at_builtin
                     refine wpList_rw (.tmp 67) (.tmp 71) w.heap.size v O HOA.out ⟨K, XS⟩ HXO.out wr.heap.size ha0.out ha1.out hol haB.out rfl rfl rfl rfl ?_
                     intro v9 w9 o9 g9 p9
                     have HO9 := Lib.hid o9
                     have HB9 := Lib.hid (Below.grown (BB.out.next BA.out) g9 haB.out (fun g e => (HOA.out.lt e).1))
                     clear o9 g9 p9)
                  | fail)
                go_roundw
                case rel => exact ⟨v9, O ++ [⟨K, XS⟩], n + 1, o1 - 1, c1, rfl, rfl, rfl, by go_num, by omega, HO9, HNX, HB9.out⟩
                case measure => simp [intOf]; omega
              · have q3 : (K != 3) = false := by simp [hk]
                have q2 : (K != 2) = true := by simp [hk]
                have HNX := Lib.hid (show TakeAt old fresh (L.map (·.data.toList)) (O ++ [⟨K, XS⟩]) (n + 1) o1 (c1 - 1) by have := HN.out; rw [hk] at this; rw [hk]; simpa [oldN, newN] using this)
                clear hk k1 k3 hk0
                go_wp2_with (first
                  | (go_at_call 93; rw [HB0.out]; refine (HKC.out _).mono ?_; rintro e w4 ⟨rfl, rfl⟩)
                  | (at_builtin
                     refine wpList_rw (.tmp 67) (.tmp 71) w.heap.size v O HOA.out ⟨K, XS⟩ HXO.out wr.heap.size ha0.out ha1.out hol haB.out rfl rfl rfl rfl ?_
                     intro v9 w9 o9 g9 p9
                     have HO9 := Lib.hid o9
                     have HB9 := Lib.hid (Below.grown (BB.out.next BA.out) g9 haB.out (fun g e => (HOA.out.lt e).1))
                     clear o9 g9 p9)
                  | fail)
                go_roundw
                case rel => exact ⟨v9, O ++ [⟨K, XS⟩], n + 1, o1, c1 - 1, rfl, rfl, rfl, by go_num, by omega, HO9, HNX, HB9.out⟩
                case measure => simp [intOf]; omega
          · have hn1i : ((n : Int) + 1 < (m : Int)) = False := eq_false (by omega)
            have HUN := Lib.hid (show (L.map (·.data.toList))[n + 1]? ≠ some noneL by
              rw [List.getElem?_eq_none (by rw [HLM.out]; omega)]
              intro e; cases e)
            obtain ⟨XS, HXS⟩ : ∃ XS, Hid (bs ss = XS) := ⟨_, rfl⟩
            have hxs := HXS.out
            have HXO := Lib.hid (show RwOk ⟨K, XS⟩ from ⟨⟨by dsimp only; omega, by dsimp only; omega⟩, by dsimp only; rw [← HXS.out, bs_size]; have := HSL.out; unfold maxLen; simp; omega⟩)
            have HN := Lib.hid (show TakeAt old fresh (L.map (·.data.toList)) (O ++ [⟨K, XS⟩]) (n + 1) (o1 - oldN K) (c1 - newN K) by
              have := HT.out.next HLK.out HT0.out HKN.out HPOS.out HUN.out
              rw [← HXS.out, ← HK.out]
              exact this)
            have BA := Lib.hid (below_alloc wr (.cells #[.int .i64 K, .string XS] 62))
            have HOA := Lib.hid (HO.out.below BA.out)
            have ha0 := Lib.hid (show (wr.alloc (.cells #[.int .i64 K, .string XS] 62)).cell? ⟨wr.heap.size, 0, none⟩ = some (.int .i64 K) by simp)
            have ha1 := Lib.hid (show (wr.alloc (.cells #[.int .i64 K, .string XS] 62)).cell? ⟨wr.heap.size, 1, none⟩ = some (.string XS) by simp)
            have haB := Lib.hid (show w.heap.size ≤ (wr.alloc (.cells #[.int .i64 K, .string XS] 62)).heap.size from (BB.out.next BA.out).size)
            clear hpos hob
            rcases (by omega : K = 1 ∨ K = 2 ∨ K = 3) with hk | hk | hk
            · have q3 : (K != 3) = true := by simp [hk]
              have q2 : (K != 2) = true := by simp [hk]
              have HNX := Lib.hid (show TakeAt old fresh (L.map (·.data.toList)) (O ++ [⟨K, XS⟩]) (n + 1) (o1 - 1) (c1 - 1) by have := HN.out; rw [hk] at this; rw [hk]; simpa [oldN, newN] using this)
              clear hk k1 k3 hk0
              go_wp2_with (first
                | (go_at_call 93; rw [HB0.out]; refine (HKC.out _).mono ?_; rintro e w4 ⟨rfl, rfl⟩)
                | (at_builtin
                   refine wpList_rw (.tmp 67) (.tmp 71) w.heap.size v O HOA.out ⟨K, XS⟩ HXO.out wr.heap.size ha0.out ha1.out hol haB.out rfl rfl rfl rfl ?_
                   intro v9 w9 o9 g9 p9
                   have HO9 := Lib.hid o9
                   have HB9 := Lib.hid (Below.grown (BB.out.next BA.out) g9 haB.out (fun g e => (HOA.out.lt e).1))
                   clear o9 g9 p9)
                | fail)
              go_roundw
              case rel => exact ⟨v9, O ++ [⟨K, XS⟩], n + 1, o1 - 1, c1 - 1, rfl, rfl, rfl, by go_num, by omega, HO9, HNX, HB9.out⟩
              case measure => simp [intOf]; omega
            · have q3 : (K != 3) = true := by simp [hk]
              have q2 : (K != 2) = false := by simp [hk]
              have HNX := Lib.hid (show TakeAt old fresh (L.map (·.data.toList)) (O ++ [⟨K, XS⟩]) (n + 1) (o1 - 1) c1 by have := HN.out; rw [hk] at this; rw [hk]; simpa [oldN, newN] using this)
              clear hk k1 k3 hk0
              go_wp2_with (first
                | (go_at_call 93; rw [HB0.out]; refine (HKC.out _).mono ?_; rintro e w4 ⟨rfl, rfl⟩)
                | (at_builtin
                   refine wpList_rw (.tmp 67) (.tmp 71) w.heap.size v O HOA.out ⟨K, XS⟩ HXO.out wr.heap.size ha0.out ha1.out hol haB.out rfl rfl rfl rfl ?_
                   intro v9 w9 o9 g9 p9
                   have HO9 := Lib.hid o9
                   have HB9 := Lib.hid (Below.grown (BB.out.next BA.out) g9 haB.out (fun g e => (HOA.out.lt e).1))
                   clear o9 g9 p9)
                | fail)
              go_roundw
              case rel => exact ⟨v9, O ++ [⟨K, XS⟩], n + 1, o1 - 1, c1, rfl, rfl, rfl, by go_num, by omega, HO9, HNX, HB9.out⟩
              case measure => simp [intOf]; omega
            · have q3 : (K != 3) = false := by simp [hk]
              have q2 : (K != 2) = true := by simp [hk]
              have HNX := Lib.hid (show TakeAt old fresh (L.map (·.data.toList)) (O ++ [⟨K, XS⟩]) (n + 1) o1 (c1 - 1) by have := HN.out; rw [hk] at this; rw [hk]; simpa [oldN, newN] using this)
              clear hk k1 k3 hk0
              go_wp2_with (first
                | (go_at_call 93; rw [HB0.out]; refine (HKC.out _).mono ?_; rintro e w4 ⟨rfl, rfl⟩)
                | (at_builtin
                   refine wpList_rw (.tmp 67) (.tmp 71) w.heap.size v O HOA.out ⟨K, XS⟩ HXO.out wr.heap.size ha0.out ha1.out hol haB.out rfl rfl rfl rfl ?_
                   intro v9 w9 o9 g9 p9
                   have HO9 := Lib.hid o9
                   have HB9 := Lib.hid (Below.grown (BB.out.next BA.out) g9 haB.out (fun g e => (HOA.out.lt e).1))
                   clear o9 g9 p9)
                | fail)
              go_roundw
              case rel => exact ⟨v9, O ++ [⟨K, XS⟩], n + 1, o1, c1 - 1, rfl, rfl, rfl, by go_num, by omega, HO9, HNX, HB9.out⟩
              case measure => simp [intOf]; omega
      · have hp := eq_false hpos
        have HE := Lib.hid (HT.out.ends HLK.out (.inr (.inl (by omega))))
        clear hpos
        go_wp2
        go_ret2
        exact ⟨_, O, n, rfl, HO.out, HE.out, hb⟩
    · have HE := Lib.hid (HT.out.ends HLK.out (.inl (by rw [HLM.out]; omega)))
      go_wp2
      go_ret2
      exact ⟨_, O, n, rfl, HO.out, HE.out, hb⟩

end Go.Proofs.YtkamenidgkjodaaGreatDoor
