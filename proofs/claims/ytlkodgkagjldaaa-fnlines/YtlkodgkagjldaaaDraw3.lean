/-
  What is drawn for the laws of the first chapter.
-/
import Derived.Test.YtlkodgkagjldaaaDraw2
import Derived.Test.YtlkodgkagjldaaaText
set_option linter.unusedSimpArgs false
set_option linter.unusedVariables false
namespace Go.Proofs.Ytlkodgkagjldaaa
open Go.RowKit M

theorem byte_info : (Try.prog.info? 5).map (fun i => (i.zero, i.size, i.bytes)) = some (some (.int .u8 0), 1, 1) := by kernel_rfl
/-- n bytes that are zero. -/
def noughts (n : Nat) : Array Value := (List.replicate n (Value.int .u8 0)).toArray
theorem make_bytes (n : Nat) (hn : n ≤ 1048576) (w : World) :
    (Instr.makeSlice 22 (.int .i64 (n : Int)) (.int .i64 (n : Int))).run Try.prog w = .ok (.slice (some ⟨w.heap.size, 0, none⟩) n n) (w.alloc (.cells (noughts n) 5)) := by
  obtain ⟨i, h1, h2, h3, h4⟩ := info_parts byte_info
  have hr := run_make (P := Try.prog) w 22 5 i _ Try.underlying22 h1 h2 .i64 .i64 n n (by omega) (by omega) (by rw [h4]; omega) (by omega)
  have e1 : madeCells (Value.int .u8 0).cells ((n : Int).toNat * i.size) = noughts n := by
    apply Array.ext'
    rw [h3, Nat.mul_one, Int.toNat_natCast]
    show (madeCells #[Value.int .u8 0] n).toList = _
    rw [toList_madeCells_one]
    simp [noughts]
  rw [e1] at hr
  simpa using hr
theorem fold_size (l : List Int) (r : ByteArray) : (l.foldl (fun r n => r.push (UInt8.ofNat n.toNat)) r).size = r.size + l.length := by
  induction l generalizing r with
  | nil => rfl
  | cons x l ih => rw [List.foldl_cons, ih, ByteArray.size_push, List.length_cons]; omega
theorem conv_noughts (n : Nat) (w : World) : ∃ s : ByteArray, s.size = n ∧ (convert 22 9 (.slice (some ⟨w.heap.size, 0, none⟩) n n)).run Try.prog (w.alloc (.cells (noughts n) 5)) = .ok (.string s) (w.alloc (.cells (noughts n) 5)) := by
  rw [run_convert_bytes_string _ _ _ 5 _ _ _ Try.underlying22 Try.underlying5 Try.underlying9]
  have h := run_loadCells_list (P := Try.prog) (w := w.alloc (.cells (noughts n) 5)) ⟨w.heap.size, 0, none⟩ (List.replicate n (.int .u8 0)) (fun j u hu => by
    have e : (⟨w.heap.size, 0, none⟩ : Addr).add j = ⟨w.heap.size, j, none⟩ := by unfold Addr.add; by_cases h0 : j = 0 <;> simp [h0]
    rw [e]
    have hb : (w.alloc (.cells (noughts n) 5)).heap[w.heap.size]? = some (.cells (noughts n) 5) := heap_alloc_new w _
    unfold World.cell?
    rw [hb]
    show (List.replicate n (Value.int .u8 0)).toArray[j]? = some u
    rw [List.getElem?_toArray]
    exact hu)
  have h2 := run_bytesToString (P := Try.prog) (w := w.alloc (.cells (noughts n) 5)) ⟨w.heap.size, 0, none⟩ n n (List.replicate n 0) (by simpa using h)
  refine ⟨_, ?_, h2⟩
  rw [fold_size, List.length_replicate, show ByteArray.empty.size = 0 from rfl, Nat.zero_add]

theorem total_small {l : List ByteArray} {K : Nat} (h : ∀ s ∈ l, s.size ≤ K) : total l ≤ l.length * K := by
  induction l with
  | nil => simp [total]
  | cons s l ih =>
    have h1 := h s (by simp)
    have h2 := ih (fun t ht => h t (by simp [ht]))
    simp only [total, List.length_cons, Nat.add_mul, Nat.one_mul]
    omega

set_option maxHeartbeats 1000000 in
theorem DrawLinesOf_any (a : Option Addr) (n c : Nat) (w : World) (h : Bytes w a n) (hn : n ≤ 1048576) :
    Calls Try.prog 14 #[.slice a n c] w fun e w' => ∃ s : ByteArray, e = .returned (.string s) ∧ s.size ≤ 200 ∧ Below w.heap.size w w' := by
  have c0 := Curs.new (c := c) h hn
  go_enter Try.func14, Try.ntmps14
  go_wp2_with fail
  refine (text_any _ 0 _ c0 (by omega)).mono ?_
  rintro e w1 ⟨v, l, rfl, o1, hl, hsm, c1, g1⟩
  obtain ⟨q, HN⟩ : ∃ q, Hid (l.length = q) := ⟨_, rfl⟩
  obtain ⟨A, cap, rfl, hn1, hn2⟩ := o1.form HN.out
  have htot := total_small hsm
  have htot : total l ≤ 72 := by omega
  have hcs := cat_size l
  clear hl hsm
  go_wp2_with fail
  refine (l1Text_any _ _ _ l _ o1.strs (by omega)).mono ?_
  rintro e w2 ⟨rfl, rfl⟩
  obtain ⟨s0, HS, hs0⟩ : ∃ s0, Hid (cat l = s0) ∧ s0.size ≤ 72 := ⟨_, rfl, by omega⟩
  rw [HS.out]
  clear hcs
  go_wp2_with fail
  refine (pick_any _ _ _ _ c1 (by omega) (by omega)).mono ?_
  rintro e w2 ⟨x, rfl, hx0, hx1, c2, g2⟩
  clear hx1
  have G2 := g1.trans g2
  by_cases h0 : x = 0
  · have hq : (x == 0) = true := by simp [h0]
    clear h0
    go_wp2_with fail
    refine (pick_any _ _ _ _ c2 (by omega) (by omega)).mono ?_
    rintro e w3 ⟨y, rfl, hy0, hy1, c3, g3⟩
    obtain ⟨k, hk⟩ : ∃ k : Nat, 30 + y = k := ⟨(30 + y).toNat, by omega⟩
    have hk2 : k ≤ 31 := by omega
    clear hy1
    have hwr : IntKind.i64.wrap (30 + y) = (k : Int) := by rw [IntKind.wrap_i64]; omega
    have hmk := make_bytes k (by omega) w3
    obtain ⟨z, hz, hcv⟩ := conv_noughts k w3
    have hsum : s0.size + z.size ≤ 200 := by omega
    go_wp2
    go_ret
    exact ⟨_, rfl, by rw [ByteArray.size_append]; omega, below_new (grown_alloc (G2.trans g3) _)⟩
  · have hq : (x == 0) = false := by simpa using h0
    by_cases h1 : x = 1
    · have hq1 : (x == 1) = true := by simp [h1]
      clear h0 h1
      go_wp2
      go_loop [4, 5] (fun sv i => ∃ (s : ByteArray) (k : Nat), sv = .string s ∧ i = .int .i64 k ∧ k ≤ 38 ∧ s.size = s0.size + k) (fun _ i => 38 - (intOf i).toNat)
      case atStart => exact ⟨s0, 0, rfl, rfl, by omega, by omega⟩
      case round =>
        obtain ⟨s, k, rfl, rfl, hk, hs⟩ := hrel
        by_cases hlt : k < 38
        · have ht := size_nl s
          have hsum : s.size + 1 ≤ 200 := by omega
          go_wp2
          go_round
          case rel => exact ⟨_, k + 1, rfl, by go_num, by omega, by rw [ht]; omega⟩
          case measure => simp [intOf]; omega
        · go_wp2
          go_ret
          exact ⟨_, rfl, by omega, below_new G2⟩
    · have hq1 : (x == 1) = false := by simpa using h1
      clear h0 h1
      go_wp2
      go_ret
      exact ⟨_, rfl, by omega, below_new G2⟩

set_option maxHeartbeats 400000 in
theorem DrawGoodLines_any (a : Option Addr) (n c : Nat) (w : World) (h : Bytes w a n) (hn : n ≤ 1048576) :
    Calls Try.prog 56 #[.slice a n c] w fun e w' => ∃ (v : Value) (l : List ByteArray), e = .returned v ∧ OwnV w' w.heap.size v l ∧ l.length ≤ 9 ∧ (∀ s ∈ l, s.size ≤ 8) ∧ Below w.heap.size w w' := by
  have c0 := Curs.new (c := c) h hn
  go_enter Try.func56, Try.ntmps56
  go_wp2_with fail
  refine (anyText_any _ 0 _ c0 (by omega)).mono ?_
  rintro e w1 ⟨v, l, rfl, o1, hl, hsm, c1, g1⟩
  have HSM := Lib.hid hsm
  clear hsm
  go_wp2
  go_ret
  exact ⟨_, l, rfl, o1.more (by simp), hl, HSM.out, below_new g1⟩

set_option maxHeartbeats 400000 in
theorem DrawTextOf_any (a : Option Addr) (n c : Nat) (w : World) (h : Bytes w a n) (hn : n ≤ 1048576) :
    Calls Try.prog 27 #[.slice a n c] w fun e w' => ∃ (v : Value) (l : List ByteArray), e = .returned v ∧ OwnV w' w.heap.size v l ∧ l.length ≤ 9 ∧ (∀ s ∈ l, s.size ≤ 8) ∧ Below w.heap.size w w' := by
  go_enter Try.func27, Try.ntmps27
  go_wp2_with fail
  refine (DrawGoodLines_any a n c _ h hn).mono ?_
  rintro e w1 ⟨v, l, rfl, o1, hl, hsm, b1⟩
  have HSM := Lib.hid hsm
  clear hsm
  go_wp2
  go_ret
  exact ⟨_, l, rfl, o1, hl, HSM.out, b1⟩

set_option maxHeartbeats 1000000 in
theorem DrawSameAhead_any (a : Option Addr) (n c : Nat) (w : World) (h : Bytes w a n) (hn : n ≤ 1048576) :
    Calls Try.prog 21 #[.slice a n c] w fun e w' => ∃ (v v2 : Value) (l l2 : List ByteArray), e = .returned (.tuple #[v, v2]) ∧ OwnV w' w.heap.size v l ∧ OwnV w' w.heap.size v2 l2 ∧ l.length ≤ 9 ∧ l2.length ≤ 12 ∧ Below w.heap.size w w' := by
  have c0 := Curs.new (c := c) h hn
  have hz : (w.alloc (.cells #[.slice a n c, .int .i64 0, .int .u64 0] 50)).heap.size = w.heap.size + 1 := by simp
  have HZ := Lib.hid hz
  clear hz
  go_enter Try.func21, Try.ntmps21
  go_wp2_with fail
  refine (anyText_any _ 0 _ c0 (by omega)).mono ?_
  rintro e w1 ⟨v, l, rfl, o1, hl, hsm, c1, g1⟩
  have HSM := Lib.hid hsm
  clear hsm
  obtain ⟨q, HN⟩ : ∃ q, Hid (l.length = q) := ⟨_, rfl⟩
  obtain ⟨A, cap, rfl, hn1, hn2⟩ := o1.form HN.out
  have hq9 : q ≤ 9 := by rw [← HN.out]; exact hl
  clear hl
  go_wp2_with fail
  refine (one_any _ _ _ _ c1 (by omega) (by omega)).mono ?_
  rintro e w2 ⟨y, rfl, c2, g2⟩
  have o2 := o1.kept g2 (fun b e h => by injection e with e; have := (o1.lt h).1; have := HZ.out; omega)
  have hlt : w.heap.size < w2.heap.size := c2.lt
  have rest : ∀ w3 : World, w2.grownBy w3 (some w.heap.size) → OwnV w3 w.heap.size (.slice A q cap) l := fun w3 g3 =>
    (o2.kept g3 (fun b e h => by injection e with e; have := (o1.lt h).1; have := HZ.out; omega)).more (by have := HZ.out; omega)
  have REST := Lib.hid rest
  clear rest
  by_cases hy : (y && goodB l) = true
  · simp at hy
    obtain ⟨rfl, hg⟩ := hy
    have hfine : Fine 30 l := fun s hs => ⟨good_ne hg s hs, by
      obtain ⟨j, hj⟩ := List.mem_iff_getElem?.1 hs
      exact (lineB_size (goodB_at hg hj).1).2⟩
    go_wp2_with fail
    refine (l1Good_any _ _ _ l _ o2.strs).mono ?_
    rintro e w3 ⟨rfl, rfl⟩
    rw [hg]
    go_wp2_with fail
    refine (other_any _ _ 30 _ _ _ l _ c2 (by omega) o2.strs (by omega) hfine (by omega) (by omega)).mono ?_
    rintro e w3 ⟨v3, l3, rfl, s3⟩
    go_wp2
    go_ret2
    exact ⟨_, v3, l, l3, rfl, REST.out _ s3.grown, s3.own.more (by omega), by rw [HN.out]; exact hq9, by have := s3.len; omega, below_new ((g1.trans g2).trans s3.grown)⟩
  · cases y with
    | true =>
      have hg : goodB l = false := by simpa using hy
      clear hy
      go_wp2_with fail
      refine (l1Good_any _ _ _ l _ o2.strs).mono ?_
      rintro e w3 ⟨rfl, rfl⟩
      rw [hg]
      go_wp2_with fail
      refine (text_any _ _ _ c2 (by omega)).mono ?_
      rintro e w3 ⟨v3, l3, rfl, o3, hl3, hsm3, c3, g3⟩
      clear hsm3
      go_wp2
      go_ret2
      exact ⟨_, v3, l, l3, rfl, REST.out _ g3, o3.more (by omega), by rw [HN.out]; exact hq9, by omega, below_new ((g1.trans g2).trans g3)⟩
    | false =>
      clear hy
      go_wp2_with fail
      refine (text_any _ _ _ c2 (by omega)).mono ?_
      rintro e w3 ⟨v3, l3, rfl, o3, hl3, hsm3, c3, g3⟩
      clear hsm3
      go_wp2
      go_ret2
      exact ⟨_, v3, l, l3, rfl, REST.out _ g3, o3.more (by omega), by rw [HN.out]; exact hq9, by omega, below_new ((g1.trans g2).trans g3)⟩

end Go.Proofs.Ytlkodgkagjldaaa
