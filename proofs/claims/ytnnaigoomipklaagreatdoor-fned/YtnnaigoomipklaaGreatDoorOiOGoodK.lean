/-
  Good orders, the program's: each order behind its kind, in a slice of the call's own.
  The editor, the program's: lines of the call's own behind a pointer; one order done.
  One order done, the program's: by its kind.
-/
import Derived.Test.YtnnaigoomipklaaGreatDoorOiOKindI
import Derived.Test.YtnnaigoomipklaaGreatDoorOiHGoods
import Derived.Test.YtnnaigoomipklaaGreatDoorOiOReplace
import Derived.Test.YtnnaigoomipklaaGreatDoorOiORun
set_option linter.unusedSimpArgs false
set_option linter.unusedVariables false
namespace Go.Proofs.YtnnaigoomipklaaGreatDoor
open Go.RowKit Go.ChangeShapes Go.WideShapes M

theorem call_enters {F : FuncId} {fn : Func} {c : Code} (hf : Tryz.prog.funcs[F]? = some fn) (hname : (fn.name == "runtime.NumGoroutine") = false) (hb : fn.body = some c) (args : Array Value) (w : World) :
    (callFunc F args).run Tryz.prog w = .ok (.enter F args) w := by
  have h1 : fn.name ≠ "runtime.NumGoroutine" := by simpa using hname
  simp [callFunc, hf, h1, hb]

theorem kind_good (x : Od) (h : x.kd = 1 ∨ x.kd = 2 ∨ x.kd = 3 ∨ x.kd = 4 ∨ x.kd = 5) (A : Option Addr) (m c : Nat) :
    ∃ F, (∀ w, (method 405 (kindT x.kd) (.agg #[.int .i64 x.fr, .int .i64 x.to_, .slice A m c]) "loop.example/g00825/impl.isGood").run Tryz.prog w = .ok (F, .agg #[.int .i64 x.fr, .int .i64 x.to_, .slice A m c]) w) ∧
      (∀ args w, (callFunc F args).run Tryz.prog w = .ok (.enter F args) w) ∧ (∀ w, Strs w A m x.new → Calls Tryz.prog F #[.agg #[.int .i64 x.fr, .int .i64 x.to_, .slice A m c]] w fun e w' => e = .returned (.bool (orderB x)) ∧ Below w.heap.size w w') := by
  unfold kindT
  by_cases e1 : x.kd = 1
  · rw [if_pos e1]
    exact ⟨_, fun w => good_add _ _ _ w, fun args w => call_enters Tryz.func288 (by kernel_rfl) rfl args w, fun w hl => addGood_any x e1 A m c w hl⟩
  rw [if_neg e1]
  by_cases e2 : x.kd = 2
  · rw [if_pos e2]
    exact ⟨_, fun w => good_put _ _ _ w, fun args w => call_enters Tryz.func294 (by kernel_rfl) rfl args w, fun w hl => putGood_any x e2 A m c w hl⟩
  rw [if_neg e2]
  by_cases e3 : x.kd = 3
  · rw [if_pos e3]
    exact ⟨_, fun w => good_change _ _ _ w, fun args w => call_enters Tryz.func295 (by kernel_rfl) rfl args w, fun w hl => changeGood_any x e3 A m c w hl⟩
  rw [if_neg e3]
  by_cases e4 : x.kd = 4
  · rw [if_pos e4]
    exact ⟨_, fun w => good_drop _ _ _ w, fun args w => call_enters Tryz.func296 (by kernel_rfl) rfl args w, fun w hl => dropGood_any x e4 A m c w hl⟩
  rw [if_neg e4]
  have e5 : x.kd = 5 := by omega
  exact ⟨_, fun w => good_fix _ _ _ w, fun args w => call_enters Tryz.func297 (by kernel_rfl) rfl args w, fun w hl => fixGood_any x e5 A m c w hl⟩

theorem k_info : (Tryz.prog.info? 157).map (fun i => (i.zero, i.size, i.bytes)) = some (some .nilIface, 1, 16) := by kernel_rfl
/-- Values of one cell, as rows of data. -/
def litRows (L : List Value) : List (List D) := L.map fun u => [D.lit u]
theorem litRows_snoc (L : List Value) (u : Value) : litRows (L ++ [u]) = litRows L ++ [[D.lit u]] := by simp [litRows]
theorem litRows_len (L : List Value) : (litRows L).length = L.length := by simp [litRows]
theorem litRows_get {L : List Value} {k : Nat} {u : Value} (h : L[k]? = some u) : (litRows L)[k]? = some [D.lit u] := by simp [litRows, h]

/-- The orders behind their kinds, as values; where their lines lie. -/
structure Sees (w : World) (a : Option Addr) (p : List Od) (L : List Value) : Prop where
  at_ : ∀ (k : Nat) x u, p[k]? = some x → L[k]? = some u → (x.kd = 1 ∨ x.kd = 2 ∨ x.kd = 3 ∨ x.kd = 4 ∨ x.kd = 5) ∧ ∃ b off A m c, a = some ⟨b, off, none⟩ ∧ w.cell? ⟨b, off + k * 4 + 3, none⟩ = some (.slice A m c) ∧ Strs w A m x.new ∧ m ≤ c ∧ OdOk x ∧ u = kindV x A m c
theorem Sees.snoc {w : World} {a : Option Addr} {p : List Od} {L : List Value} (h : Sees w a (p.take L.length) L) {x : Od} (hx : p[L.length]? = some x) {b off : Nat} {A : Option Addr} {m c : Nat} (hk : x.kd = 1 ∨ x.kd = 2 ∨ x.kd = 3 ∨ x.kd = 4 ∨ x.kd = 5) (ha : a = some ⟨b, off, none⟩)
    (hc : w.cell? ⟨b, off + L.length * 4 + 3, none⟩ = some (.slice A m c)) (hs : Strs w A m x.new) (hm : m ≤ c) (ho : OdOk x) : Sees w a (p.take (L.length + 1)) (L ++ [kindV x A m c]) := by
  refine ⟨fun k y u hy hu => ?_⟩
  rw [take_snoc hx] at hy
  have hlen : (p.take L.length).length = L.length := by have := (List.getElem?_eq_some_iff.1 hx).1; simp; omega
  rcases list_snoc_get hu with ⟨h1, h2⟩ | ⟨h1, h2⟩
  · rw [List.getElem?_append_left (by omega)] at hy
    exact h.at_ k y u hy h2
  · rw [h1, List.getElem?_append_right (by omega), hlen, Nat.sub_self] at hy
    injection hy with hy
    subst hy h1 h2
    exact ⟨hk, b, off, A, m, c, ha, hc, hs, hm, ho, rfl⟩

theorem wpList_kind {w : World} {ops : Array Oper} {rest : List Oper} {o : Oper} {a : Act} {Q : Exit → Act → World → Prop} (s y : Operand) (base : Nat) (v : Value) (L : List Value) (hown : OwnR w base v 157 1 (litRows L)) (u : Value) (hu : u.oneCell' = true)
    (gb : Nat) (h0 : w.cell? ⟨gb, 0, none⟩ = some u) (hbound : L.length ≤ 1048576) (hbase : base ≤ w.heap.size)
    (hgd : Region.wanted o (yielded ops a.tmps) = true) (ho : o.op = .call { callee := .builtin .append, args := #[s, y], argTypes := #[82, 82] }) (hs : a.eval s = v) (hy : a.eval y = .slice (some ⟨gb, 0, none⟩) 1 1)
    (h : ∀ v' w', OwnR w' base v' 157 1 (litRows (L ++ [u])) → w.grownBy w' v.ownBlock → (v'.ownBlock = v.ownBlock ∨ v'.ownBlock = some w.heap.size) → wpList Tryz.prog ops Q rest (a.put o.dst v') w') : wpList Tryz.prog ops Q (o :: rest) a w := by
  obtain ⟨i, q1, q2, q3, q4⟩ := info_parts k_info
  refine wpList_app_R Tryz.underlying82 q1 q2 q3 q4 (by simp [Value.cells]) (by omega) s y base v (litRows L) hown [.lit u] rfl ⟨hu, trivial⟩ (by simp [D.blocksL, D.blocks]) (fun g hg => by simp [D.blocksL, D.blocks] at hg) ⟨gb, 0, none⟩ 1 (fun j d hj => ?_) (by rw [litRows_len]; exact hbound) (by omega) hbase hgd ho hs hy (fun v' w' o' => h v' w' (by rw [litRows_snoc]; exact o'))
  match j with
  | 0 => simp at hj; subst hj; rw [add_at]; exact h0
  | j + 1 => simp at hj

set_option maxHeartbeats 2000000 in
set_option maxRecDepth 100000 in
theorem goodOrders_any (a : Option Addr) (n c : Nat) (p : List Od) (w : World) (hp : Ods w a n p) :
    Calls Tryz.prog 65 #[.slice a n c] w fun e w' => ∃ A m d L, e = .returned (.tuple #[.slice A m d, .bool (ordersB p)]) ∧ (ordersB p = true → m = n ∧ OwnR w' w.heap.size (.slice A m d) 157 1 (litRows L) ∧ Sees w a p L) ∧ Below w.heap.size w w' := by
  have HN := Lib.hid hp.len
  by_cases h60 : 60 < n
  · have hf := Lib.hid (orders_many (p := p) (by rw [HN.out]; omega))
    go_enter Tryz.func65, Tryz.ntmps65
    go_wp2
    go_ret2
    exact ⟨none, 0, 0, [], by rw [hf.out]; rfl, fun e => (by rw [hf.out] at e; cases e), Below.refl _ _⟩
  go_enter Tryz.func65, Tryz.ntmps65
  go_wp2
  go_loopw [4, 13] (fun all i w' => ∃ (j : Nat) (v : Value) (L : List Value), i = .int .i64 j ∧ v = all ∧ j ≤ n ∧ OwnR w' w.heap.size v 157 1 (litRows L) ∧ Hid (L.length = j) ∧ Hid (Sees w a (p.take j) L) ∧ Hid (∀ (k : Nat) x, k < j → p[k]? = some x → orderB x = true) ∧ Below w.heap.size w w') (fun _ i _ => n - (intOf i).toNat)
  case atStart => exact ⟨0, _, [], rfl, rfl, by omega, OwnR.nil_, Lib.hid rfl, Lib.hid ⟨fun k x u hx hu => by simp at hu⟩, Lib.hid (fun k x hk => by omega), Below.refl _ _⟩
  case round =>
    obtain ⟨j, v, L, rfl, rfl, hj, ho, HL, HS, HG, hb⟩ := hrel
    by_cases hlt : j < n
    · obtain ⟨b, off, A, mm, cm, x, rfl, hx, d0, d1, d2, d3, hs, hmc, hok⟩ := (hp.below hb).at_ hlt
      have HX := Lib.hid hx
      have HO := Lib.hid ho
      have HB := Lib.hid hb
      have HOK := Lib.hid hok
      have HST := Lib.hid hs
      have HD := Lib.hid (show OdC wr b (off + j * 4) x A mm cm from ⟨d0, d1, d2, d3⟩)
      have HAT := Lib.hid (show w.cell? ⟨b, off + j * 4 + 3, none⟩ = some (.slice A mm cm) ∧ Strs w A mm x.new from by
        obtain ⟨b', off', A', m', c', x', e1, e2, _, _, _, e3, e4, _, _⟩ := hp.at_ hlt
        injection e1 with e1
        injection e1 with e5 e6 _
        subst e5 e6
        rw [hx] at e2
        injection e2 with e2
        subst e2
        have e7 := cell_keep hb e3
        rw [d3] at e7
        injection e7 with e7
        injection e7 with e8 e9 e10
        subst e8 e9 e10
        exact ⟨e3, e4⟩)
      clear hx ho hb hok hs d0 d1 d2 d3
      have hi0 : (0 : Int) ≤ (j : Int) := by omega
      have hi1 : (j : Int) < (n : Int) := by omega
      by_cases hkd : x.kd = 1 ∨ x.kd = 2 ∨ x.kd = 3 ∨ x.kd = 4 ∨ x.kd = 5
      · have HKD := Lib.hid hkd
        obtain ⟨F, hm, hen, hF⟩ := kind_good x hkd A mm cm
        have HF := Lib.hid hF
        obtain ⟨T, HT⟩ : ∃ T, Hid (kindT x.kd = T) := ⟨_, rfl⟩
        rw [HT.out] at hm
        have HR := Lib.hid (show kindR x A mm cm = .tuple #[.iface T (.agg #[.int .i64 x.fr, .int .i64 x.to_, .slice A mm cm]), .bool true] by rw [kindR_yes A mm cm hkd]; unfold kindV; rw [HT.out])
        clear hkd hF
        go_wp2_with fail
        refine (orderOf_any b (off + j * 4) x A mm cm _ HD.out).mono ?_
        rintro e w1 ⟨rfl, b1⟩
        rw [HR.out]
        cases hgd : orderB x
        · have hf := Lib.hid (orders_bad_at HX.out hgd)
          have HGD := Lib.hid hgd
          clear hgd
          go_wp2_with fail
          refine (HF.out _ (HST.out.below b1)).mono ?_
          rintro e w2 ⟨rfl, b2⟩
          rw [HGD.out]
          go_wp2
          go_ret2
          exact ⟨none, 0, 0, [], by rw [hf.out]; rfl, fun e => (by rw [hf.out] at e; cases e), (HB.out.next b1).next b2⟩
        · have HGD := Lib.hid hgd
          clear hgd
          go_wp2_with fail
          refine (HF.out _ (HST.out.below b1)).mono ?_
          rintro e w2 ⟨rfl, b2⟩
          rw [HGD.out]
          have HB2 := Lib.hid ((HB.out.next b1).next b2)
          have HO2 := Lib.hid ((HO.out.below b1).below b2)
          have hz2 := Lib.hid HB2.out.size
          clear b1 b2
          go_wp2_with (at_builtin; refine wpList_kind (.tmp 30) (.tmp 32) w.heap.size v L (HO2.out.below (below_alloc _ _)) (.iface T (.agg #[.int .i64 x.fr, .int .i64 x.to_, .slice A mm cm])) rfl w2.heap.size (by simp) (by rw [HL.out]; omega) (by have := hz2.out; simp; omega) rfl rfl rfl rfl ?_; intro v3 w3 o3 g3 p3)
          go_roundw
          case rel =>
            refine ⟨j + 1, v3, _, by go_num, rfl, by omega, o3, Lib.hid (by simp [HL.out]), Lib.hid ?_, Lib.hid (fun k y hk hy => ?_), ?_⟩
            · have h1 := HS.out
              have h2 := HL.out
              rw [← h2] at h1 ⊢
              have h3 := Sees.snoc h1 (x := x) (by rw [h2]; exact HX.out) HKD.out rfl (by rw [h2]; exact HAT.out.1) HAT.out.2 hmc HOK.out
              unfold kindV at h3
              rw [HT.out] at h3
              exact h3
            · rcases Nat.lt_or_ge k j with h | h
              · exact HG.out k y h hy
              · have : k = j := by omega
                subst this
                rw [HX.out] at hy
                injection hy with hy
                rw [← hy, HGD.out]
            · exact (HB2.out.next (below_alloc _ _)).grown g3 (by have := hz2.out; simp; omega) (fun g e => (HO2.out.lt ((by unfold BlkR; simp [e]))).1)
          case measure => simp [intOf]; omega
      · have HR := Lib.hid (kindR_no A mm cm hkd)
        have hf := Lib.hid (orders_bad_at HX.out (orderB_not hkd))
        clear hkd
        go_wp2_with fail
        refine (orderOf_any b (off + j * 4) x A mm cm _ HD.out).mono ?_
        rintro e w1 ⟨rfl, b1⟩
        rw [HR.out]
        go_wp2
        go_ret2
        exact ⟨none, 0, 0, [], by rw [hf.out]; rfl, fun e => (by rw [hf.out] at e; cases e), HB.out.next b1⟩
    · have hf := Lib.hid (show ordersB p = true from orders_ok (fun k x hx => HG.out k x (by have := (List.getElem?_eq_some_iff.1 hx).1; have := HN.out; omega) hx) (by rw [HN.out]; omega))
      have htk := Lib.hid (show p.take j = p from List.take_of_length_le (by rw [HN.out]; omega))
      have hjn : j = n := by omega
      obtain ⟨A, d, rfl, _, _⟩ := ho.form (n := j) (by rw [litRows_len]; exact HL.out)
      go_wp2
      go_ret2
      refine ⟨A, j, d, L, by rw [hf.out]; rfl, fun _ => ⟨hjn, ho, ?_⟩, hb⟩
      have := HS.out
      rw [htk.out] at this
      exact this

theorem implGoodOrders_any (a : Option Addr) (n c : Nat) (p : List Od) (w : World) (hp : Ods w a n p) :
    Calls Tryz.prog 13 #[.slice a n c] w fun e w' => e = .returned (.bool (ordersB p)) ∧ Below w.heap.size w w' := by
  go_enter Tryz.func13, Tryz.ntmps13
  go_wp2_with fail
  refine (goodOrders_any a n c p _ hp).mono ?_
  rintro e w1 ⟨A, m, d, L, rfl, _, b1⟩
  go_wp2
  go_ret
  exact ⟨rfl, b1⟩

end Go.Proofs.YtnnaigoomipklaaGreatDoor

namespace Go.Proofs.YtnnaigoomipklaaGreatDoor
open Go.RowKit Go.ChangeShapes Go.WideShapes M

/-- An editor behind a pointer holds these lines. -/
structure Ed (w : World) (base eb : Nat) (u : Value) (L : List ByteArray) : Prop where
  low : base ≤ eb
  box : w.heap[eb]? = some (.cells #[u] 112 (0, 0))
  own : OwnV w base u L
  apart : u.ownBlock ≠ some eb

section
variable {w w' : World} {base eb : Nat} {u : Value} {L : List ByteArray}
theorem Ed.lt (h : Ed w base eb u L) : eb < w.heap.size := (Array.getElem?_eq_some_iff.1 h.box).1
theorem Ed.cell (h : Ed w base eb u L) : w.cell? ⟨eb, 0, none⟩ = some u := by
  have := h.box
  simp [World.cell?, this]
theorem Ed.free (h : Ed w base eb u L) : w.frozen? ⟨eb, 0, none⟩ = false := by
  have := h.box
  simp [World.frozen?, this]
theorem Ed.below (h : Ed w base eb u L) (hb : Below w.heap.size w w') : Ed w' base eb u L := ⟨h.low, (hb.block eb h.lt).trans h.box, h.own.below hb, h.apart⟩
theorem Ed.wrote {S : Nat → Prop} (h : Ed w base eb u L) (hw : Wrote S w w') (h1 : ¬ S eb) (h2 : ∀ g, u.ownBlock = some g → ¬ S g) : Ed w' base eb u L := ⟨h.low, (hw.block eb h.lt h1).trans h.box, h.own.wrote hw h2, h.apart⟩
theorem Ed.wide (h : Ed w base eb u L) : base ≤ w.heap.size := Nat.le_trans h.low (Nat.le_of_lt h.lt)
end

/-- What an order does to the editor: its own block, and the lines' own; the lines may come to lie in a new block. -/
structure Moved (w w' : World) (base eb : Nat) (u u' : Value) (L : List ByteArray) : Prop where
  ed : Ed w' base eb u' L
  wrote : Wrote (fun k => k = eb ∨ u.ownBlock = some k) w w'
  place : ∀ k, u'.ownBlock = some k → u.ownBlock = some k ∨ w.heap.size ≤ k
theorem Moved.same {w w' : World} {base eb : Nat} {u : Value} {L : List ByteArray} (h : Ed w base eb u L) (hb : Below w.heap.size w w') : Moved w w' base eb u u L := ⟨h.below hb, Wrote.of_below hb, fun k e => .inl e⟩
theorem Moved.after {w w1 w2 : World} {base eb : Nat} {u u' : Value} {L : List ByteArray} (hb : Below w.heap.size w w1) (h : Moved w1 w2 base eb u u' L) : Moved w w2 base eb u u' L :=
  ⟨h.ed, (Wrote.of_below hb).trans h.wrote (fun _ _ e => e), fun k e => (h.place k e).imp id (fun h2 => Nat.le_trans hb.size h2)⟩
theorem Moved.below {w w' : World} {base eb : Nat} {u u' : Value} {L L0 : List ByteArray} (h : Moved w w' base eb u u' L) (h0 : Ed w base eb u L0) : Below base w w' :=
  Wrote.below (Below.refl base w) h.wrote h0.wide (fun k e => e.elim (fun e => e ▸ h0.low) (fun e => (h0.own.lt e).1))

theorem box_set {w : World} {eb : Nat} {u v : Value} {t : TypeId} (h : w.heap[eb]? = some (.cells #[u] t (0, 0))) : (w.setCell ⟨eb, 0, none⟩ v).heap[eb]? = some (.cells #[v] t (0, 0)) := by
  simp [World.setCell, Array.getElem?_modify, h]

set_option maxHeartbeats 1000000 in
/-- Lines are put in place of others. -/
theorem ereplace_any (base eb : Nat) (u : Value) (L : List ByteArray) (i j : Nat) (B : Option Addr) (m c : Nat) (r : List ByteArray) (w : World) (h : Ed w base eb u L) (hr : Strs w B m r) (hmc : m ≤ c) (hpl : PlainAt w B) (hlow : ∀ b, B = some b → b.block < base)
    (hij : i ≤ j) (hjn : j ≤ L.length) (hn : L.length ≤ 1048576) (hm : m ≤ 1048576) :
    Calls Tryz.prog 187 #[.pointer (some ⟨eb, 0, none⟩), .int .i64 (i : Int), .int .i64 (j : Int), .slice B m c] w fun e w' => e = .returned (.tuple #[]) ∧ ∃ u', Moved w w' base eb u u' (L.take i ++ (r ++ L.drop j)) := by
  have H := Lib.hid h
  have hc := h.cell
  obtain ⟨n, HN⟩ : ∃ n, Hid (L.length = n) := ⟨_, rfl⟩
  have ho := h.own
  obtain ⟨A, cap, rfl, hnc, hcm⟩ := ho.form HN.out
  rw [HN.out] at hjn hn
  have HO := Lib.hid ho
  clear h ho
  go_enter Tryz.func187, Tryz.ntmps187
  go_wp2_with fail
  refine (replaceS_any base A n cap L B m c r i j w HO.out hr hmc hpl (fun a b ha hb e => by
    subst ha
    have h1 := (HO.out.lt (g := a.block) rfl).1
    have h2 := hlow b hb
    omega) hij hjn hn hm H.out.wide).mono ?_
  rintro e w1 ⟨v1, rfl, p1⟩
  have hb1 : w1.heap[eb]? = some (.cells #[.slice A n cap] 112 (0, 0)) := (p1.wrote.block eb H.out.lt (fun e => H.out.apart e)).trans H.out.box
  have hcc : w1.cell? ⟨eb, 0, none⟩ = some (.slice A n cap) := by simp [World.cell?, hb1]
  have hff : w1.frozen? ⟨eb, 0, none⟩ = false := by simp [World.frozen?, hb1]
  have hap : v1.ownBlock ≠ some eb := fun e => by
    rcases p1.place eb e with h | h
    · exact H.out.apart h
    · have := H.out.lt; omega
  have P1 := Lib.hid p1
  have HB1 := Lib.hid hb1
  have HAP := Lib.hid hap
  clear p1 hb1 hap
  obtain ⟨q, HQ⟩ : ∃ q, Hid ((L.take i ++ (r ++ L.drop j)).length = q) := ⟨_, rfl⟩
  obtain ⟨A1, c1, rfl, _, _⟩ := P1.out.own.form HQ.out
  go_wp2
  go_end0
  refine ⟨rfl, _, ⟨H.out.low, box_set HB1.out, P1.out.own.wrote (Wrote.set (fun k => k = eb) _ _ _ rfl) (fun g e e2 => HAP.out (by rw [e, e2])), HAP.out⟩, ?_, P1.out.place⟩
  exact (P1.out.wrote.mono (fun k _ e => .inr e)).trans (Wrote.set (fun k => k = eb) _ _ _ rfl) (fun k _ e => .inl e)

theorem dotBytes_ (s : ByteArray) (h1 : 1 ≤ s.size) : ((s.extract 0 1).toList == [46]) = decide (s.data.toList.head? = some 46) := by
  rw [ByteArray.toList_eq, ByteArray.data_extract, Array.toList_extract]
  have hl : 1 ≤ s.data.toList.length := by rw [Array.length_toList]; exact h1
  cases e : s.data.toList with
  | nil => rw [e] at hl; simp at hl
  | cons c r => rw [Bool.eq_iff_iff]; simp
theorem two_bytes (s : ByteArray) : (s.toList == [46, 10]) = decide (s = dotA) := by
  rw [ByteArray.toList_eq, Bool.eq_iff_iff, beq_iff_eq, decide_eq_true_iff]
  constructor
  · intro h
    apply ByteArray.ext
    apply Array.ext'
    rw [h]
    rfl
  · rintro rfl
    rfl
/-- A text without its first dot. -/
def undot (s : ByteArray) : ByteArray := if s.data.toList.head? = some 46 then s.extract 1 s.size else s

set_option maxHeartbeats 400000 in
theorem dotCut_any (s : ByteArray) (w : World) (hs : s.size ≤ 1048576) (h1 : 1 ≤ s.size) :
    Calls Tryz.prog 207 #[.string s, .string ⟨#[46]⟩] w fun e w' => e = .returned (.tuple #[.string (undot s), .bool (decide (s.data.toList.head? = some 46))]) ∧ w' = w := by
  have hd := dotBytes_ s h1
  have hP : ∀ w, Calls Tryz.prog 238 #[.string s, .string ⟨#[46]⟩] w fun e w' => e = .returned (.bool (decide (s.data.toList.head? = some 46))) ∧ w' = w := by
    intro w
    cases hq : decide (s.data.toList.head? = some 46)
    all_goals
      rw [hq] at hd
      have HQ := Lib.hid hq
      clear hq
      go_enter Tryz.func238, Tryz.ntmps238
      go_wp2
      go_ret
      exact ⟨rfl, rfl⟩
  have HP := Lib.hid hP
  clear hP hd
  cases hq : decide (s.data.toList.head? = some 46)
  · have hi := Lib.hid (show undot s = s from if_neg (of_decide_eq_false hq))
    have HQ := Lib.hid hq
    clear hq
    have h0 : ∀ w, Calls Tryz.prog 224 #[.string s, .string ⟨#[46]⟩] w fun e w' => e = .returned (.tuple #[.string s, .bool false]) ∧ w' = w := by
      intro w
      go_enter Tryz.func224, Tryz.ntmps224
      go_wp2_with fail
      refine (HP.out _).mono ?_
      rintro e w1 ⟨rfl, rfl⟩
      rw [HQ.out]
      go_wp2
      go_ret2
      exact ⟨rfl, rfl⟩
    have H0 := Lib.hid h0
    clear h0
    go_enter Tryz.func207, Tryz.ntmps207
    go_wp2_with fail
    refine (H0.out _).mono ?_
    rintro e w1 ⟨rfl, rfl⟩
    go_wp2
    go_ret2
    exact ⟨by rw [hi.out]; rfl, rfl⟩
  · have hi := Lib.hid (show undot s = s.extract 1 s.size from if_pos (of_decide_eq_true hq))
    have HQ := Lib.hid hq
    clear hq
    have h0 : ∀ w, Calls Tryz.prog 224 #[.string s, .string ⟨#[46]⟩] w fun e w' => e = .returned (.tuple #[.string (s.extract 1 s.size), .bool true]) ∧ w' = w := by
      intro w
      go_enter Tryz.func224, Tryz.ntmps224
      go_wp2_with fail
      refine (HP.out _).mono ?_
      rintro e w1 ⟨rfl, rfl⟩
      rw [HQ.out]
      go_wp2
      go_ret2
      exact ⟨rfl, rfl⟩
    have H0 := Lib.hid h0
    clear h0
    go_enter Tryz.func207, Tryz.ntmps207
    go_wp2_with fail
    refine (H0.out _).mono ?_
    rintro e w1 ⟨rfl, rfl⟩
    go_wp2
    go_ret2
    exact ⟨by rw [hi.out]; rfl, rfl⟩

theorem fixS_yes {s : ByteArray} (h1 : s.data.toList.head? = some 46) (h2 : s ≠ dotA) : fixS s = some (undot s) := by
  unfold fixS undot
  rw [if_pos ⟨h1, h2⟩, if_pos h1]
theorem fixS_no {s : ByteArray} (h : ¬ (s.data.toList.head? = some 46 ∧ s ≠ dotA)) : fixS s = none := if_neg h
theorem undot_le (s : ByteArray) : (undot s).size ≤ s.size := by
  unfold undot
  split <;> simp

set_option maxHeartbeats 1000000 in
/-- A line loses its first dot. -/
theorem efix_any (base eb : Nat) (u : Value) (L : List ByteArray) (k : Nat) (s : ByteArray) (w : World) (h : Ed w base eb u L) (hs : L[k]? = some s) (h1 : 1 ≤ s.size) (h2 : s.size ≤ 1048576) (hn : L.length ≤ 1048576) :
    Calls Tryz.prog 188 #[.pointer (some ⟨eb, 0, none⟩), .int .i64 (k : Int)] w fun e w' => (fixS s = none ∧ e = .returned (.int .i64 2) ∧ w' = w) ∨ (∃ t, fixS s = some t ∧ e = .returned (.int .i64 0) ∧ Moved w w' base eb u u (L.set k t)) := by
  have H := Lib.hid h
  have hc := h.cell
  obtain ⟨n, HN⟩ : ∃ n, Hid (L.length = n) := ⟨_, rfl⟩
  have ho := h.own
  obtain ⟨A, cap, rfl, hnc, hcm⟩ := ho.form HN.out
  rw [HN.out] at hn
  have hk : k < n := by rw [← HN.out]; exact (List.getElem?_eq_some_iff.1 hs).1
  obtain ⟨g, rfl, hgb, hgl, _, hgf, hset⟩ := ho.at_ hk
  have hcg : w.cell? ⟨g, k, none⟩ = some (.string s) := by
    obtain ⟨b, off, t, e, ht, _, hc2⟩ := ho.strs.at_ hk
    injection e with e
    injection e with e1 e2
    subst e1 e2
    rw [hs] at ht
    injection ht with ht
    subst ht
    rw [Nat.zero_add] at hc2
    exact hc2
  have HSET := Lib.hid hset
  have HS := Lib.hid hs
  have hi0 : (0 : Int) ≤ (k : Int) := by omega
  have hi1 : (k : Int) < (n : Int) := by omega
  have hbd : decide (s.data.toList.head? = some 46) = true ∨ decide (s.data.toList.head? = some 46) = false := by cases decide (s.data.toList.head? = some 46) <;> simp
  have hgne : g ≠ eb := fun e => h.apart (by rw [e]; rfl)
  clear h ho hset hs
  rcases hbd with hb | hb
  · have HH := Lib.hid (of_decide_eq_true hb)
    cases ht : decide (s = dotA)
    · have hq := two_bytes s
      rw [ht] at hq
      have HF := Lib.hid (fixS_yes HH.out (of_decide_eq_false ht))
      have HB := Lib.hid hb
      clear hb ht
      have hz := Lib.hid (Nat.le_trans (undot_le s) h2)
      go_enter Tryz.func188, Tryz.ntmps188
      go_wp2_with fail
      refine (dotCut_any s _ h2 h1).mono ?_
      rintro e w1 ⟨rfl, hw⟩
      subst hw
      rw [HB.out]
      go_wp2
      go_ret
      obtain ⟨o1, g1⟩ := HSET.out (undot s) (by unfold maxLen; have := hz.out; omega)
      refine .inr ⟨_, HF.out, rfl, ⟨H.out.low, ?_, o1, H.out.apart⟩, (Wrote.set (fun k => k = g) w1 ⟨g, k, none⟩ (.string (undot s)) rfl).mono (fun k _ e => .inr (by rw [e]; rfl)), fun k e => .inl e⟩
      exact ((Wrote.set (fun k => k = g) w1 ⟨g, k, none⟩ (.string (undot s)) rfl).block eb H.out.lt (fun e => hgne e.symm)).trans H.out.box
    · have hq := two_bytes s
      rw [ht] at hq
      have HF := Lib.hid (fixS_no (s := s) (fun e => e.2 (of_decide_eq_true ht)))
      have HB := Lib.hid hb
      clear hb ht
      go_enter Tryz.func188, Tryz.ntmps188
      go_wp2_with fail
      refine (dotCut_any s _ h2 h1).mono ?_
      rintro e w1 ⟨rfl, hw⟩
      subst hw
      rw [HB.out]
      go_wp2
      go_ret
      exact .inl ⟨HF.out, rfl, rfl⟩
  · have HF := Lib.hid (fixS_no (s := s) (fun e => (of_decide_eq_false hb) e.1))
    have HB := Lib.hid hb
    clear hb
    go_enter Tryz.func188, Tryz.ntmps188
    go_wp2_with fail
    refine (dotCut_any s _ h2 h1).mono ?_
    rintro e w1 ⟨rfl, hw⟩
    subst hw
    rw [HB.out]
    go_wp2
    go_ret
    exact .inl ⟨HF.out, rfl, rfl⟩

end Go.Proofs.YtnnaigoomipklaaGreatDoor

namespace Go.Proofs.YtnnaigoomipklaaGreatDoor
open Go.RowKit Go.ChangeShapes Go.WideShapes M

theorem bey_add (a b c : Value) (w : World) : (method 405 193 (.agg #[a, b, c]) "loop.example/g00825/impl.isBeyond").run Tryz.prog w = .ok (287, .agg #[a, b, c]) w := by kernel_rfl
theorem bey_put (a b c : Value) (w : World) : (method 405 194 (.agg #[a, b, c]) "loop.example/g00825/impl.isBeyond").run Tryz.prog w = .ok (287, .agg #[a, b, c]) w := by kernel_rfl
theorem bey_change (a b c : Value) (w : World) : (method 405 195 (.agg #[a, b, c]) "loop.example/g00825/impl.isBeyond").run Tryz.prog w = .ok (287, .agg #[a, b, c]) w := by kernel_rfl
theorem bey_drop (a b c : Value) (w : World) : (method 405 196 (.agg #[a, b, c]) "loop.example/g00825/impl.isBeyond").run Tryz.prog w = .ok (287, .agg #[a, b, c]) w := by kernel_rfl
theorem bey_fix (a b c : Value) (w : World) : (method 405 197 (.agg #[a, b, c]) "loop.example/g00825/impl.isBeyond").run Tryz.prog w = .ok (287, .agg #[a, b, c]) w := by kernel_rfl

theorem nil_add (a b c : Value) (w : World) : (nilAhead 405 193 (.agg #[a, b, c]) "loop.example/g00825/impl.isBeyond").run Tryz.prog w = .ok (some false) w := by kernel_rfl
theorem nil_put (a b c : Value) (w : World) : (nilAhead 405 194 (.agg #[a, b, c]) "loop.example/g00825/impl.isBeyond").run Tryz.prog w = .ok (some false) w := by kernel_rfl
theorem nil_change (a b c : Value) (w : World) : (nilAhead 405 195 (.agg #[a, b, c]) "loop.example/g00825/impl.isBeyond").run Tryz.prog w = .ok (some false) w := by kernel_rfl
theorem nil_drop (a b c : Value) (w : World) : (nilAhead 405 196 (.agg #[a, b, c]) "loop.example/g00825/impl.isBeyond").run Tryz.prog w = .ok (some false) w := by kernel_rfl
theorem nil_fix (a b c : Value) (w : World) : (nilAhead 405 197 (.agg #[a, b, c]) "loop.example/g00825/impl.isBeyond").run Tryz.prog w = .ok (some false) w := by kernel_rfl

theorem ta_add (a b c : Value) (w : World) : (Instr.typeAssert (.iface 193 (.agg #[a, b, c])) 157 193 true).run Tryz.prog w = .ok (.tuple #[.agg #[a, b, c], .bool true]) w := by kernel_rfl
theorem ta_put_add (a b c : Value) (w : World) : (Instr.typeAssert (.iface 194 (.agg #[a, b, c])) 157 193 true).run Tryz.prog w = .ok (.tuple #[.agg #[.int .i64 0, .int .i64 0, .slice none 0 0], .bool false]) w := by kernel_rfl
theorem ta_put (a b c : Value) (w : World) : (Instr.typeAssert (.iface 194 (.agg #[a, b, c])) 157 194 true).run Tryz.prog w = .ok (.tuple #[.agg #[a, b, c], .bool true]) w := by kernel_rfl
theorem ta_change_add (a b c : Value) (w : World) : (Instr.typeAssert (.iface 195 (.agg #[a, b, c])) 157 193 true).run Tryz.prog w = .ok (.tuple #[.agg #[.int .i64 0, .int .i64 0, .slice none 0 0], .bool false]) w := by kernel_rfl
theorem ta_change_put (a b c : Value) (w : World) : (Instr.typeAssert (.iface 195 (.agg #[a, b, c])) 157 194 true).run Tryz.prog w = .ok (.tuple #[.agg #[.int .i64 0, .int .i64 0, .slice none 0 0], .bool false]) w := by kernel_rfl
theorem ta_change (a b c : Value) (w : World) : (Instr.typeAssert (.iface 195 (.agg #[a, b, c])) 157 195 true).run Tryz.prog w = .ok (.tuple #[.agg #[a, b, c], .bool true]) w := by kernel_rfl
theorem ta_drop_add (a b c : Value) (w : World) : (Instr.typeAssert (.iface 196 (.agg #[a, b, c])) 157 193 true).run Tryz.prog w = .ok (.tuple #[.agg #[.int .i64 0, .int .i64 0, .slice none 0 0], .bool false]) w := by kernel_rfl
theorem ta_drop_put (a b c : Value) (w : World) : (Instr.typeAssert (.iface 196 (.agg #[a, b, c])) 157 194 true).run Tryz.prog w = .ok (.tuple #[.agg #[.int .i64 0, .int .i64 0, .slice none 0 0], .bool false]) w := by kernel_rfl
theorem ta_drop_change (a b c : Value) (w : World) : (Instr.typeAssert (.iface 196 (.agg #[a, b, c])) 157 195 true).run Tryz.prog w = .ok (.tuple #[.agg #[.int .i64 0, .int .i64 0, .slice none 0 0], .bool false]) w := by kernel_rfl
theorem ta_drop (a b c : Value) (w : World) : (Instr.typeAssert (.iface 196 (.agg #[a, b, c])) 157 196 true).run Tryz.prog w = .ok (.tuple #[.agg #[a, b, c], .bool true]) w := by kernel_rfl
theorem ta_fix_add (a b c : Value) (w : World) : (Instr.typeAssert (.iface 197 (.agg #[a, b, c])) 157 193 true).run Tryz.prog w = .ok (.tuple #[.agg #[.int .i64 0, .int .i64 0, .slice none 0 0], .bool false]) w := by kernel_rfl
theorem ta_fix_put (a b c : Value) (w : World) : (Instr.typeAssert (.iface 197 (.agg #[a, b, c])) 157 194 true).run Tryz.prog w = .ok (.tuple #[.agg #[.int .i64 0, .int .i64 0, .slice none 0 0], .bool false]) w := by kernel_rfl
theorem ta_fix_change (a b c : Value) (w : World) : (Instr.typeAssert (.iface 197 (.agg #[a, b, c])) 157 195 true).run Tryz.prog w = .ok (.tuple #[.agg #[.int .i64 0, .int .i64 0, .slice none 0 0], .bool false]) w := by kernel_rfl
theorem ta_fix_drop (a b c : Value) (w : World) : (Instr.typeAssert (.iface 197 (.agg #[a, b, c])) 157 196 true).run Tryz.prog w = .ok (.tuple #[.agg #[.int .i64 0, .int .i64 0, .slice none 0 0], .bool false]) w := by kernel_rfl
theorem ta_fix (a b c : Value) (w : World) : (Instr.typeAssert (.iface 197 (.agg #[a, b, c])) 157 197 true).run Tryz.prog w = .ok (.tuple #[.agg #[a, b, c], .bool true]) w := by kernel_rfl

/-- The lines behind an order: as they were where it can not be done. -/
def doL (L : List ByteArray) (x : Od) : List ByteArray := if (doO L x).2 = 0 then (doO L x).1 else L
theorem doL_of {L r : List ByteArray} {x : Od} (h : doO L x = (r, 0)) : doL L x = r := by unfold doL; rw [h]; rfl
theorem doL_not {L r : List ByteArray} {x : Od} {c : Int} (h : doO L x = (r, c)) (hc : c ≠ 0) : doL L x = L := by unfold doL; rw [h]; exact if_neg hc
theorem do_far {L : List ByteArray} {x : Od} (h : (L.length : Int) < x.to_) : doO L x = ([], 3) := if_pos h
theorem do_rep {L : List ByteArray} {x : Od} (h : ¬ (L.length : Int) < x.to_) (hk : x.kd ≠ 5) : doO L x = (L.take (fromO x) ++ (x.new ++ L.drop (behindO x)), 0) := by
  unfold doO
  rw [if_neg h, if_neg hk]
theorem do_fix {L : List ByteArray} {x : Od} {s : ByteArray} (h : ¬ (L.length : Int) < x.to_) (hk : x.kd = 5) (hs : L[(x.fr - 1).toNat]? = some s) : doO L x = match fixS s with
    | some t => (L.take (x.fr - 1).toNat ++ t :: L.drop x.to_.toNat, 0)
    | none => ([], 2) := by
  unfold doO
  rw [if_neg h, if_pos hk, hs]
  rfl

set_option maxHeartbeats 2000000 in
set_option maxRecDepth 100000 in
theorem doFix_any (base eb : Nat) (u : Value) (L : List ByteArray) (a : Nat) (new : List ByteArray) (A : Option Addr) (m c : Nat) (w : World) (ha : 1 ≤ a) (hb : a ≤ 1000) (h : Ed w base eb u L) (hn : L.length ≤ 100000) (hsz : ∀ s ∈ L, 1 ≤ s.size ∧ s.size ≤ 100) :
    Calls Tryz.prog 142 #[.pointer (some ⟨eb, 0, none⟩), .iface 197 (.agg #[.int .i64 (a : Int), .int .i64 (a : Int), .slice A m c])] w fun e w' =>
      e = .returned (.int .i64 (doO L ⟨5, a, a, new⟩).2) ∧ ∃ u', Moved w w' base eb u u' (doL L ⟨5, a, a, new⟩) := by
  have H := Lib.hid h
  have hc := h.cell
  obtain ⟨n, HN⟩ : ∃ n, Hid (L.length = n) := ⟨_, rfl⟩
  have ho := h.own
  obtain ⟨B, cap, rfl, hnc, hcm⟩ := ho.form HN.out
  have hmf : ∀ (fn : Fn) (first cp : Array Value) (w : World), (Instr.makeFunc fn first cp).run Tryz.prog w = .ok (.func fn first cp) w := fun _ _ _ _ => rfl
  have hm := bey_fix (.int .i64 (a : Int)) (.int .i64 (a : Int)) (.slice A m c)
  have hna := nil_fix (.int .i64 (a : Int)) (.int .i64 (a : Int)) (.slice A m c)
  have t0 := ta_fix_add (.int .i64 (a : Int)) (.int .i64 (a : Int)) (.slice A m c)
  have t1 := ta_fix_put (.int .i64 (a : Int)) (.int .i64 (a : Int)) (.slice A m c)
  have t2 := ta_fix_change (.int .i64 (a : Int)) (.int .i64 (a : Int)) (.slice A m c)
  have t3 := ta_fix_drop (.int .i64 (a : Int)) (.int .i64 (a : Int)) (.slice A m c)
  have t4 := ta_fix (.int .i64 (a : Int)) (.int .i64 (a : Int)) (.slice A m c)
  have hHB := fun (w1 : World) (b1 : Below w.drew.heap.size w.drew w1) => (show Below w.heap.size w w1 from (Below.refl _ w).drew.next b1)
  have HHB := Lib.hid hHB
  clear h ho hHB
  by_cases hfar : (n : Int) < (a : Int)
  · have hd : decide ((n : Int) < (a : Int)) = true := by simpa using hfar
    have HF := Lib.hid (show doO L ⟨5, a, a, new⟩ = ([], 3) from do_far (by rw [HN.out]; exact hfar))
    have HD := Lib.hid hd
    clear hfar hd
    go_enter Tryz.func142, Tryz.ntmps142
    go_wp2
    go_region_held3 (fun w' => w'.cell? ⟨eb, 0, none⟩ = some (.slice B n cap)) (first | exact hc | exact cell_keep b1 hc)
      (first | (go_at_call 287; refine (isBeyond_any ⟨5, a, a, new⟩ n A m c _).mono ?_; rintro e w1 ⟨rfl, b1⟩; dsimp only; rw [HD.out]) | fail)
    go_wp2
    go_ret
    exact ⟨by rw [HF.out]; rfl, _, by rw [doL_not HF.out (by decide)]; exact Moved.same H.out (HHB.out _ b1)⟩
  · have hd : decide ((n : Int) < (a : Int)) = false := by simpa using hfar
    have HD := Lib.hid hd
    obtain ⟨k, HK⟩ : ∃ k : Nat, Hid (k + 1 = a) := ⟨a - 1, show a - 1 + 1 = a by omega⟩
    have hk1 : IntKind.i64.wrap ((a : Int) - 1) = (k : Int) := by have := HK.out; rw [IntKind.wrap_i64]; omega
    have hkn : k < L.length := by have := HK.out; have := HN.out; omega
    have hs : L[k]? = some L[k] := List.getElem?_eq_getElem hkn
    obtain ⟨s, HS⟩ : ∃ s, Hid (L[k]? = some s) := ⟨_, hs⟩
    have HZ := Lib.hid (hsz s (List.mem_of_getElem? HS.out))
    have HF := Lib.hid (do_fix (L := L) (x := ⟨5, a, a, new⟩) (s := s) (by show ¬ (L.length : Int) < (a : Int); rw [HN.out]; exact hfar) rfl (by show L[((a : Int) - 1).toNat]? = some s; rw [show ((a : Int) - 1).toNat = k by have := HK.out; omega]; exact HS.out))
    have HE := Lib.hid (show (((a : Int) - 1).toNat = k ∧ ((a : Int)).toNat = k + 1) by have := HK.out; omega)
    clear hfar hd hs hkn hsz
    go_enter Tryz.func142, Tryz.ntmps142
    go_wp2
    go_region_held3 (fun w' => w'.cell? ⟨eb, 0, none⟩ = some (.slice B n cap)) (first | exact hc | exact cell_keep b1 hc)
      (first | (go_at_call 287; refine (isBeyond_any ⟨5, a, a, new⟩ n A m c _).mono ?_; rintro e w1 ⟨rfl, b1⟩; dsimp only; rw [HD.out]) | fail)
    have HE1 := Lib.hid ((H.out.below (Below.refl _ w).drew).below b1)
    have HB1 := Lib.hid (HHB.out _ b1)
    clear b1
    have hcc := HE1.out.cell
    obtain ⟨W2, HW2⟩ : ∃ W2, Hid (W2 = w1.alloc (.cells #[.int .i64 (a : Int), .int .i64 (a : Int), .slice A m c] 197)) := ⟨_, rfl⟩
    have HB2 := Lib.hid (show Below w1.heap.size w1 W2 by rw [HW2.out]; exact below_alloc _ _)
    have HBB := Lib.hid (show Below w.heap.size w W2 from HB1.out.next HB2.out)
    go_wp2_with fail
    rw [← HW2.out]
    refine (efix_any base eb _ L k s _ (HE1.out.below HB2.out) HS.out HZ.out.1 (by have := HZ.out; omega) (by omega)).mono ?_
    rintro e w3 (⟨hf, rfl, rfl⟩ | ⟨t, hf, rfl, e3⟩)
    · have HDO := Lib.hid (show doO L ⟨5, a, a, new⟩ = ([], 2) by rw [HF.out, hf])
      go_wp2
      go_ret
      exact ⟨by rw [HDO.out]; rfl, _, by rw [doL_not HDO.out (by decide)]; exact Moved.same H.out HBB.out⟩
    · have HDO := Lib.hid (show doO L ⟨5, a, a, new⟩ = (L.set k t, 0) by
        rw [HF.out, hf]
        dsimp only
        rw [HE.out.1, HE.out.2]
        rw [List.set_eq_take_append_cons_drop, if_pos (by have := (List.getElem?_eq_some_iff.1 HS.out).1; omega)])
      go_wp2
      go_ret
      exact ⟨by rw [HDO.out]; rfl, _, by rw [doL_of HDO.out]; exact Moved.after HBB.out e3⟩

set_option maxHeartbeats 2000000 in
set_option maxRecDepth 100000 in
theorem doAdd_any (base eb : Nat) (u : Value) (L : List ByteArray) (a : Nat) (new : List ByteArray) (A : Option Addr) (m c : Nat) (w : World) (ha : 0 ≤ a) (hb : a ≤ 1000) (h : Ed w base eb u L) (hn : L.length ≤ 100000) (hs : Strs w A m new) (hmc : m ≤ c) (hm : m ≤ 1048576) (hpl : PlainAt w A) (hlow : ∀ b, A = some b → b.block < base) :
    Calls Tryz.prog 142 #[.pointer (some ⟨eb, 0, none⟩), .iface 193 (.agg #[.int .i64 (a : Int), .int .i64 (a : Int), .slice A m c])] w fun e w' =>
      e = .returned (.int .i64 (doO L ⟨1, a, a, new⟩).2) ∧ ∃ u', Moved w w' base eb u u' (doL L ⟨1, a, a, new⟩) := by
  have SX := Lib.hid hs
  have PX := Lib.hid hpl
  have LX := Lib.hid hlow
  clear hs hpl hlow
  have H := Lib.hid h
  have hc := h.cell
  obtain ⟨n, HN⟩ : ∃ n, Hid (L.length = n) := ⟨_, rfl⟩
  have ho := h.own
  obtain ⟨B, cap, rfl, hnc, hcm⟩ := ho.form HN.out
  have hmf : ∀ (fn : Fn) (first cp : Array Value) (w : World), (Instr.makeFunc fn first cp).run Tryz.prog w = .ok (.func fn first cp) w := fun _ _ _ _ => rfl
  have hm0 := bey_add (.int .i64 (a : Int)) (.int .i64 (a : Int)) (.slice A m c)
  have hna := nil_add (.int .i64 (a : Int)) (.int .i64 (a : Int)) (.slice A m c)
  have t0 := ta_add (.int .i64 (a : Int)) (.int .i64 (a : Int)) (.slice A m c)
  have hHB := fun (w1 : World) (b1 : Below w.drew.heap.size w.drew w1) => (show Below w.heap.size w w1 from (Below.refl _ w).drew.next b1)
  have HHB := Lib.hid hHB
  clear h ho hHB
  by_cases hfar : (n : Int) < (a : Int)
  · have hd : decide ((n : Int) < (a : Int)) = true := by simpa using hfar
    have HF := Lib.hid (show doO L ⟨1, a, a, new⟩ = ([], 3) from do_far (by rw [HN.out]; exact hfar))
    have HD := Lib.hid hd
    clear hfar hd
    go_enter Tryz.func142, Tryz.ntmps142
    go_wp2
    go_region_held3 (fun w' => w'.cell? ⟨eb, 0, none⟩ = some (.slice B n cap)) (first | exact hc | exact cell_keep b1 hc)
      (first | (go_at_call 287; refine (isBeyond_any ⟨1, a, a, new⟩ n A m c _).mono ?_; rintro e w1 ⟨rfl, b1⟩; dsimp only; rw [HD.out]) | fail)
    go_wp2
    go_ret
    exact ⟨by rw [HF.out]; rfl, _, by rw [doL_not HF.out (by decide)]; exact Moved.same H.out (HHB.out _ b1)⟩
  · have hd : decide ((n : Int) < (a : Int)) = false := by simpa using hfar
    have HD := Lib.hid hd
    have hjn : a ≤ L.length := by have := HN.out; omega
    have HJ := Lib.hid hjn
    have HF := Lib.hid (show doO L ⟨1, a, a, new⟩ = (L.take a ++ (new ++ L.drop a), 0) by
      rw [do_rep (by rw [HN.out]; exact hfar) (by show (1 : Int) ≠ 5; decide)]
      have e1 : fromO ⟨1, a, a, new⟩ = a := by unfold fromO; dsimp only; split <;> omega
      have e2 : behindO ⟨1, a, a, new⟩ = a := by unfold behindO; dsimp only; split <;> omega
      rw [e1, e2])
    clear hfar hd hjn
    go_enter Tryz.func142, Tryz.ntmps142
    go_wp2
    go_region_held3 (fun w' => w'.cell? ⟨eb, 0, none⟩ = some (.slice B n cap)) (first | exact hc | exact cell_keep b1 hc)
      (first | (go_at_call 287; refine (isBeyond_any ⟨1, a, a, new⟩ n A m c _).mono ?_; rintro e w1 ⟨rfl, b1⟩; dsimp only; rw [HD.out]) | fail)
    have HE1 := Lib.hid ((H.out.below (Below.refl _ w).drew).below b1)
    have HB1w := Lib.hid (HHB.out _ b1)
    clear b1
    have hcc := HE1.out.cell
    obtain ⟨W2, HW2⟩ : ∃ W2, Hid (W2 = w1.alloc (.cells #[.int .i64 (a : Int), .int .i64 (a : Int), .slice A m c] 193)) := ⟨_, rfl⟩
    have HB2 := Lib.hid (show Below w1.heap.size w1 W2 by rw [HW2.out]; exact below_alloc _ _)
    have HBB := Lib.hid (show Below w.heap.size w W2 from HB1w.out.next HB2.out)
    go_wp2_with fail
    rw [← HW2.out]
    refine (ereplace_any base eb _ L a a A m c new _ (HE1.out.below HB2.out) ((SX.out.below HB1w.out).below HB2.out) hmc ((PX.out.below HB1w.out).below HB2.out) LX.out (by omega) HJ.out (by omega) hm).mono ?_
    rintro e w3 ⟨rfl, u3, e3⟩
    go_wp2
    go_ret
    exact ⟨by rw [HF.out]; rfl, _, by rw [doL_of HF.out]; exact Moved.after HBB.out e3⟩

set_option maxHeartbeats 2000000 in
set_option maxRecDepth 100000 in
theorem doPut_any (base eb : Nat) (u : Value) (L : List ByteArray) (a : Nat) (new : List ByteArray) (A : Option Addr) (m c : Nat) (w : World) (ha : 1 ≤ a) (hb : a ≤ 1000) (h : Ed w base eb u L) (hn : L.length ≤ 100000) (hs : Strs w A m new) (hmc : m ≤ c) (hm : m ≤ 1048576) (hpl : PlainAt w A) (hlow : ∀ b, A = some b → b.block < base) :
    Calls Tryz.prog 142 #[.pointer (some ⟨eb, 0, none⟩), .iface 194 (.agg #[.int .i64 (a : Int), .int .i64 (a : Int), .slice A m c])] w fun e w' =>
      e = .returned (.int .i64 (doO L ⟨2, a, a, new⟩).2) ∧ ∃ u', Moved w w' base eb u u' (doL L ⟨2, a, a, new⟩) := by
  have SX := Lib.hid hs
  have PX := Lib.hid hpl
  have LX := Lib.hid hlow
  clear hs hpl hlow
  have H := Lib.hid h
  have hc := h.cell
  obtain ⟨n, HN⟩ : ∃ n, Hid (L.length = n) := ⟨_, rfl⟩
  have ho := h.own
  obtain ⟨B, cap, rfl, hnc, hcm⟩ := ho.form HN.out
  have hmf : ∀ (fn : Fn) (first cp : Array Value) (w : World), (Instr.makeFunc fn first cp).run Tryz.prog w = .ok (.func fn first cp) w := fun _ _ _ _ => rfl
  have hm0 := bey_put (.int .i64 (a : Int)) (.int .i64 (a : Int)) (.slice A m c)
  have hna := nil_put (.int .i64 (a : Int)) (.int .i64 (a : Int)) (.slice A m c)
  have t0 := ta_put_add (.int .i64 (a : Int)) (.int .i64 (a : Int)) (.slice A m c)
  have t1 := ta_put (.int .i64 (a : Int)) (.int .i64 (a : Int)) (.slice A m c)
  have hHB := fun (w1 : World) (b1 : Below w.drew.heap.size w.drew w1) => (show Below w.heap.size w w1 from (Below.refl _ w).drew.next b1)
  have HHB := Lib.hid hHB
  clear h ho hHB
  by_cases hfar : (n : Int) < (a : Int)
  · have hd : decide ((n : Int) < (a : Int)) = true := by simpa using hfar
    have HF := Lib.hid (show doO L ⟨2, a, a, new⟩ = ([], 3) from do_far (by rw [HN.out]; exact hfar))
    have HD := Lib.hid hd
    clear hfar hd
    go_enter Tryz.func142, Tryz.ntmps142
    go_wp2
    go_region_held3 (fun w' => w'.cell? ⟨eb, 0, none⟩ = some (.slice B n cap)) (first | exact hc | exact cell_keep b1 hc)
      (first | (go_at_call 287; refine (isBeyond_any ⟨2, a, a, new⟩ n A m c _).mono ?_; rintro e w1 ⟨rfl, b1⟩; dsimp only; rw [HD.out]) | fail)
    go_wp2
    go_ret
    exact ⟨by rw [HF.out]; rfl, _, by rw [doL_not HF.out (by decide)]; exact Moved.same H.out (HHB.out _ b1)⟩
  · have hd : decide ((n : Int) < (a : Int)) = false := by simpa using hfar
    have HD := Lib.hid hd
    obtain ⟨k, HK⟩ : ∃ k : Nat, Hid (k + 1 = a) := ⟨a - 1, show a - 1 + 1 = a by omega⟩
    have hk1 : IntKind.i64.wrap ((a : Int) - 1) = (k : Int) := by have := HK.out; rw [IntKind.wrap_i64]; omega
    have hjn : k ≤ L.length := by have := HK.out; have := HN.out; omega
    have HJ := Lib.hid hjn
    have HF := Lib.hid (show doO L ⟨2, a, a, new⟩ = (L.take k ++ (new ++ L.drop k), 0) by
      rw [do_rep (by rw [HN.out]; exact hfar) (by show (2 : Int) ≠ 5; decide)]
      have e1 : fromO ⟨2, a, a, new⟩ = k := by unfold fromO; dsimp only; have := HK.out; split <;> omega
      have e2 : behindO ⟨2, a, a, new⟩ = k := by unfold behindO; dsimp only; have := HK.out; split <;> omega
      rw [e1, e2])
    clear hfar hd hjn
    go_enter Tryz.func142, Tryz.ntmps142
    go_wp2
    go_region_held3 (fun w' => w'.cell? ⟨eb, 0, none⟩ = some (.slice B n cap)) (first | exact hc | exact cell_keep b1 hc)
      (first | (go_at_call 287; refine (isBeyond_any ⟨2, a, a, new⟩ n A m c _).mono ?_; rintro e w1 ⟨rfl, b1⟩; dsimp only; rw [HD.out]) | fail)
    have HE1 := Lib.hid ((H.out.below (Below.refl _ w).drew).below b1)
    have HB1w := Lib.hid (HHB.out _ b1)
    clear b1
    have hcc := HE1.out.cell
    obtain ⟨W2, HW2⟩ : ∃ W2, Hid (W2 = w1.alloc (.cells #[.int .i64 (a : Int), .int .i64 (a : Int), .slice A m c] 194)) := ⟨_, rfl⟩
    have HB2 := Lib.hid (show Below w1.heap.size w1 W2 by rw [HW2.out]; exact below_alloc _ _)
    have HBB := Lib.hid (show Below w.heap.size w W2 from HB1w.out.next HB2.out)
    go_wp2_with fail
    rw [← HW2.out]
    refine (ereplace_any base eb _ L k k A m c new _ (HE1.out.below HB2.out) ((SX.out.below HB1w.out).below HB2.out) hmc ((PX.out.below HB1w.out).below HB2.out) LX.out (by have := HK.out; omega) HJ.out (by omega) hm).mono ?_
    rintro e w3 ⟨rfl, u3, e3⟩
    go_wp2
    go_ret
    exact ⟨by rw [HF.out]; rfl, _, by rw [doL_of HF.out]; exact Moved.after HBB.out e3⟩

set_option maxHeartbeats 2000000 in
set_option maxRecDepth 100000 in
theorem doChange_any (base eb : Nat) (u : Value) (L : List ByteArray) (a b : Nat) (new : List ByteArray) (A : Option Addr) (m c : Nat) (w : World) (hab : a ≤ b) (ha : 1 ≤ a) (hb : b ≤ 1000) (h : Ed w base eb u L) (hn : L.length ≤ 100000) (hs : Strs w A m new) (hmc : m ≤ c) (hm : m ≤ 1048576) (hpl : PlainAt w A) (hlow : ∀ b, A = some b → b.block < base) :
    Calls Tryz.prog 142 #[.pointer (some ⟨eb, 0, none⟩), .iface 195 (.agg #[.int .i64 (a : Int), .int .i64 (b : Int), .slice A m c])] w fun e w' =>
      e = .returned (.int .i64 (doO L ⟨3, a, b, new⟩).2) ∧ ∃ u', Moved w w' base eb u u' (doL L ⟨3, a, b, new⟩) := by
  have SX := Lib.hid hs
  have PX := Lib.hid hpl
  have LX := Lib.hid hlow
  clear hs hpl hlow
  have H := Lib.hid h
  have hc := h.cell
  obtain ⟨n, HN⟩ : ∃ n, Hid (L.length = n) := ⟨_, rfl⟩
  have ho := h.own
  obtain ⟨B, cap, rfl, hnc, hcm⟩ := ho.form HN.out
  have hmf : ∀ (fn : Fn) (first cp : Array Value) (w : World), (Instr.makeFunc fn first cp).run Tryz.prog w = .ok (.func fn first cp) w := fun _ _ _ _ => rfl
  have hm0 := bey_change (.int .i64 (a : Int)) (.int .i64 (b : Int)) (.slice A m c)
  have hna := nil_change (.int .i64 (a : Int)) (.int .i64 (b : Int)) (.slice A m c)
  have t0 := ta_change_add (.int .i64 (a : Int)) (.int .i64 (b : Int)) (.slice A m c)
  have t1 := ta_change_put (.int .i64 (a : Int)) (.int .i64 (b : Int)) (.slice A m c)
  have t2 := ta_change (.int .i64 (a : Int)) (.int .i64 (b : Int)) (.slice A m c)
  have hHB := fun (w1 : World) (b1 : Below w.drew.heap.size w.drew w1) => (show Below w.heap.size w w1 from (Below.refl _ w).drew.next b1)
  have HHB := Lib.hid hHB
  clear h ho hHB
  by_cases hfar : (n : Int) < (b : Int)
  · have hd : decide ((n : Int) < (b : Int)) = true := by simpa using hfar
    have HF := Lib.hid (show doO L ⟨3, a, b, new⟩ = ([], 3) from do_far (by rw [HN.out]; exact hfar))
    have HD := Lib.hid hd
    clear hfar hd
    go_enter Tryz.func142, Tryz.ntmps142
    go_wp2
    go_region_held3 (fun w' => w'.cell? ⟨eb, 0, none⟩ = some (.slice B n cap)) (first | exact hc | exact cell_keep b1 hc)
      (first | (go_at_call 287; refine (isBeyond_any ⟨3, a, b, new⟩ n A m c _).mono ?_; rintro e w1 ⟨rfl, b1⟩; dsimp only; rw [HD.out]) | fail)
    go_wp2
    go_ret
    exact ⟨by rw [HF.out]; rfl, _, by rw [doL_not HF.out (by decide)]; exact Moved.same H.out (HHB.out _ b1)⟩
  · have hd : decide ((n : Int) < (b : Int)) = false := by simpa using hfar
    have HD := Lib.hid hd
    obtain ⟨k, HK⟩ : ∃ k : Nat, Hid (k + 1 = a) := ⟨a - 1, show a - 1 + 1 = a by omega⟩
    have hk1 : IntKind.i64.wrap ((a : Int) - 1) = (k : Int) := by have := HK.out; rw [IntKind.wrap_i64]; omega
    have hjn : b ≤ L.length := by have := HK.out; have := HN.out; omega
    have HJ := Lib.hid hjn
    have HF := Lib.hid (show doO L ⟨3, a, b, new⟩ = (L.take k ++ (new ++ L.drop b), 0) by
      rw [do_rep (by rw [HN.out]; exact hfar) (by show (3 : Int) ≠ 5; decide)]
      have e1 : fromO ⟨3, a, b, new⟩ = k := by unfold fromO; dsimp only; have := HK.out; split <;> omega
      have e2 : behindO ⟨3, a, b, new⟩ = b := by unfold behindO; dsimp only; have := HK.out; split <;> omega
      rw [e1, e2])
    clear hfar hd hjn
    go_enter Tryz.func142, Tryz.ntmps142
    go_wp2
    go_region_held3 (fun w' => w'.cell? ⟨eb, 0, none⟩ = some (.slice B n cap)) (first | exact hc | exact cell_keep b1 hc)
      (first | (go_at_call 287; refine (isBeyond_any ⟨3, a, b, new⟩ n A m c _).mono ?_; rintro e w1 ⟨rfl, b1⟩; dsimp only; rw [HD.out]) | fail)
    have HE1 := Lib.hid ((H.out.below (Below.refl _ w).drew).below b1)
    have HB1w := Lib.hid (HHB.out _ b1)
    clear b1
    have hcc := HE1.out.cell
    obtain ⟨W2, HW2⟩ : ∃ W2, Hid (W2 = w1.alloc (.cells #[.int .i64 (a : Int), .int .i64 (b : Int), .slice A m c] 195)) := ⟨_, rfl⟩
    have HB2 := Lib.hid (show Below w1.heap.size w1 W2 by rw [HW2.out]; exact below_alloc _ _)
    have HBB := Lib.hid (show Below w.heap.size w W2 from HB1w.out.next HB2.out)
    go_wp2_with fail
    rw [← HW2.out]
    refine (ereplace_any base eb _ L k b A m c new _ (HE1.out.below HB2.out) ((SX.out.below HB1w.out).below HB2.out) hmc ((PX.out.below HB1w.out).below HB2.out) LX.out (by have := HK.out; omega) HJ.out (by omega) hm).mono ?_
    rintro e w3 ⟨rfl, u3, e3⟩
    go_wp2
    go_ret
    exact ⟨by rw [HF.out]; rfl, _, by rw [doL_of HF.out]; exact Moved.after HBB.out e3⟩

set_option maxHeartbeats 2000000 in
set_option maxRecDepth 100000 in
theorem doDrop_any (base eb : Nat) (u : Value) (L : List ByteArray) (a b : Nat) (new : List ByteArray) (A : Option Addr) (m c : Nat) (w : World) (hab : a ≤ b) (ha : 1 ≤ a) (hb : b ≤ 1000) (h : Ed w base eb u L) (hn : L.length ≤ 100000) (hnew : new = []) :
    Calls Tryz.prog 142 #[.pointer (some ⟨eb, 0, none⟩), .iface 196 (.agg #[.int .i64 (a : Int), .int .i64 (b : Int), .slice A m c])] w fun e w' =>
      e = .returned (.int .i64 (doO L ⟨4, a, b, new⟩).2) ∧ ∃ u', Moved w w' base eb u u' (doL L ⟨4, a, b, new⟩) := by
  subst hnew
  have H := Lib.hid h
  have hc := h.cell
  obtain ⟨n, HN⟩ : ∃ n, Hid (L.length = n) := ⟨_, rfl⟩
  have ho := h.own
  obtain ⟨B, cap, rfl, hnc, hcm⟩ := ho.form HN.out
  have hmf : ∀ (fn : Fn) (first cp : Array Value) (w : World), (Instr.makeFunc fn first cp).run Tryz.prog w = .ok (.func fn first cp) w := fun _ _ _ _ => rfl
  have hm0 := bey_drop (.int .i64 (a : Int)) (.int .i64 (b : Int)) (.slice A m c)
  have hna := nil_drop (.int .i64 (a : Int)) (.int .i64 (b : Int)) (.slice A m c)
  have t0 := ta_drop_add (.int .i64 (a : Int)) (.int .i64 (b : Int)) (.slice A m c)
  have t1 := ta_drop_put (.int .i64 (a : Int)) (.int .i64 (b : Int)) (.slice A m c)
  have t2 := ta_drop_change (.int .i64 (a : Int)) (.int .i64 (b : Int)) (.slice A m c)
  have t3 := ta_drop (.int .i64 (a : Int)) (.int .i64 (b : Int)) (.slice A m c)
  have hHB := fun (w1 : World) (b1 : Below w.drew.heap.size w.drew w1) => (show Below w.heap.size w w1 from (Below.refl _ w).drew.next b1)
  have HHB := Lib.hid hHB
  clear h ho hHB
  by_cases hfar : (n : Int) < (b : Int)
  · have hd : decide ((n : Int) < (b : Int)) = true := by simpa using hfar
    have HF := Lib.hid (show doO L ⟨4, a, b, []⟩ = ([], 3) from do_far (by rw [HN.out]; exact hfar))
    have HD := Lib.hid hd
    clear hfar hd
    go_enter Tryz.func142, Tryz.ntmps142
    go_wp2
    go_region_held3 (fun w' => w'.cell? ⟨eb, 0, none⟩ = some (.slice B n cap)) (first | exact hc | exact cell_keep b1 hc)
      (first | (go_at_call 287; refine (isBeyond_any ⟨4, a, b, []⟩ n A m c _).mono ?_; rintro e w1 ⟨rfl, b1⟩; dsimp only; rw [HD.out]) | fail)
    go_wp2
    go_ret
    exact ⟨by rw [HF.out]; rfl, _, by rw [doL_not HF.out (by decide)]; exact Moved.same H.out (HHB.out _ b1)⟩
  · have hd : decide ((n : Int) < (b : Int)) = false := by simpa using hfar
    have HD := Lib.hid hd
    obtain ⟨k, HK⟩ : ∃ k : Nat, Hid (k + 1 = a) := ⟨a - 1, show a - 1 + 1 = a by omega⟩
    have hk1 : IntKind.i64.wrap ((a : Int) - 1) = (k : Int) := by have := HK.out; rw [IntKind.wrap_i64]; omega
    have hjn : b ≤ L.length := by have := HK.out; have := HN.out; omega
    have HJ := Lib.hid hjn
    have HF := Lib.hid (show doO L ⟨4, a, b, []⟩ = (L.take k ++ ([] ++ L.drop b), 0) by
      rw [do_rep (by rw [HN.out]; exact hfar) (by show (4 : Int) ≠ 5; decide)]
      have e1 : fromO ⟨4, a, b, []⟩ = k := by unfold fromO; dsimp only; have := HK.out; split <;> omega
      have e2 : behindO ⟨4, a, b, []⟩ = b := by unfold behindO; dsimp only; have := HK.out; split <;> omega
      rw [e1, e2])
    clear hfar hd hjn
    go_enter Tryz.func142, Tryz.ntmps142
    go_wp2
    go_region_held3 (fun w' => w'.cell? ⟨eb, 0, none⟩ = some (.slice B n cap)) (first | exact hc | exact cell_keep b1 hc)
      (first | (go_at_call 287; refine (isBeyond_any ⟨4, a, b, []⟩ n A m c _).mono ?_; rintro e w1 ⟨rfl, b1⟩; dsimp only; rw [HD.out]) | fail)
    have HE1 := Lib.hid ((H.out.below (Below.refl _ w).drew).below b1)
    have HB1w := Lib.hid (HHB.out _ b1)
    clear b1
    have hcc := HE1.out.cell
    obtain ⟨W2, HW2⟩ : ∃ W2, Hid (W2 = w1.alloc (.cells #[.int .i64 (a : Int), .int .i64 (b : Int), .slice A m c] 196)) := ⟨_, rfl⟩
    have HB2 := Lib.hid (show Below w1.heap.size w1 W2 by rw [HW2.out]; exact below_alloc _ _)
    have HBB := Lib.hid (show Below w.heap.size w W2 from HB1w.out.next HB2.out)
    go_wp2_with fail
    rw [← HW2.out]
    refine (ereplace_any base eb _ L k b none 0 0 [] _ (HE1.out.below HB2.out) Strs.nil_ (Nat.le_refl _) (fun ad e => by cases e) (fun ad e => by cases e) (by have := HK.out; omega) HJ.out (by omega) (by omega)).mono ?_
    rintro e w3 ⟨rfl, u3, e3⟩
    go_wp2
    go_ret
    exact ⟨by rw [HF.out]; rfl, _, by rw [doL_of HF.out]; exact Moved.after HBB.out e3⟩

theorem doO_any (base eb : Nat) (u : Value) (L : List ByteArray) (x : Od) (A : Option Addr) (m c : Nat) (w : World) (hx : orderB x = true) (h : Ed w base eb u L) (hn : L.length ≤ 100000) (hsz : ∀ s ∈ L, 1 ≤ s.size ∧ s.size ≤ 100)
    (hs : Strs w A m x.new) (hmc : m ≤ c) (hpl : PlainAt w A) (hlow : ∀ b, A = some b → b.block < base) :
    Calls Tryz.prog 142 #[.pointer (some ⟨eb, 0, none⟩), kindV x A m c] w fun e w' => e = .returned (.int .i64 (doO L x).2) ∧ ∃ u', Moved w w' base eb u u' (doL L x) := by
  have hm : m ≤ 1048576 := by have := (order_lines hx).2; have := hs.len; omega
  obtain ⟨a, b, e1, e2, hab, hb, h5⟩ := order_cases hx
  obtain ⟨kd, fr, to_, new⟩ := x
  dsimp only at e1 e2 h5 hs ⊢
  subst e1 e2
  unfold kindV kindT
  dsimp only
  rcases h5 with ⟨rfl, rfl, _⟩ | ⟨rfl, rfl, h1, _⟩ | ⟨rfl, h1, _⟩ | ⟨rfl, h1, rfl⟩ | ⟨rfl, h1, rfl, rfl⟩
  · exact doAdd_any base eb u L a new A m c w (Nat.zero_le _) hb h hn hs hmc hm hpl hlow
  · exact doPut_any base eb u L a new A m c w h1 hb h hn hs hmc hm hpl hlow
  · exact doChange_any base eb u L a b new A m c w hab h1 hb h hn hs hmc hm hpl hlow
  · exact doDrop_any base eb u L a b [] A m c w hab h1 hb h hn rfl
  · exact doFix_any base eb u L a [] A m c w h1 hb h hn hsz

end Go.Proofs.YtnnaigoomipklaaGreatDoor
