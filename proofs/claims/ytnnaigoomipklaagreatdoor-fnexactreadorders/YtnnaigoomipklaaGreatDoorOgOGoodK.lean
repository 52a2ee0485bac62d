/-
  Good orders, the program's: each order behind its kind, in a slice of the call's own.
-/
import Derived.Test.YtnnaigoomipklaaGreatDoorOgOKindI
import Derived.Test.YtnnaigoomipklaaGreatDoorOgHApp
set_option linter.unusedSimpArgs false
set_option linter.unusedVariables false
namespace Go.Proofs.YtnnaigoomipklaaGreatDoor
open Go.RowKit Go.ChangeShapes Go.WideShapes M

theorem call_enters {F : FuncId} {fn : Func} {c : Code} (hf : Tryz.prog.funcs[F]? = some fn) (hname : (fn.name == "runtime.NumGoroutine") = false) (hb : fn.body = some c) (args : Array Value) (w : World) :
    (callFunc F args).run Tryz.prog w = .ok (.enter F args) w := by
  have h1 : fn.name ≠ "runtime.NumGoroutine" := by simpa using hname
  simp [callFunc, hf, h1, hb]

theorem kind_good (x : Od) (h : x.kd = 1 ∨ x.kd = 2 ∨ x.kd = 3 ∨ x.kd = 4 ∨ x.kd = 5) (A : Option Addr) (m c : Nat) :
    ∃ F, (∀ w, (method 405 (kindT x.kd) (.agg #[.int .i64 x.fr, .int .i64 x.to_, .slice A m c]) "loop.example/g00825/impl.isGood").run Tryz.prog w = .ok (F, .agg #[.int .i64 x.fr, .int .i64 x.to_, .slice A m c]) w) ∧
      (∀ args w, (callFunc F args).run Tryz.prog w = .ok (.enter F args) w) ∧ (∀ w, Strs w A m x.new → Calls Tryz.prog F #[.agg #[.int .i64 x.fr, .int .i64 x.to_, .slice A m c]] w fun e w' => e = .returned (.bool (orderB x)) ∧ Below w.heap.size w w') := by
  unfold kindT
  by_cases e1 : x.kd = 1
  · rw [if_pos e1]
    exact ⟨_, fun w => good_add _ _ _ w, fun args w => call_enters Tryz.func288 (by kernel_rfl) rfl args w, fun w hl => addGood_any x e1 A m c w hl⟩
  rw [if_neg e1]
  by_cases e2 : x.kd = 2
  · rw [if_pos e2]
    exact ⟨_, fun w => good_put _ _ _ w, fun args w => call_enters Tryz.func294 (by kernel_rfl) rfl args w, fun w hl => putGood_any x e2 A m c w hl⟩
  rw [if_neg e2]
  by_cases e3 : x.kd = 3
  · rw [if_pos e3]
    exact ⟨_, fun w => good_change _ _ _ w, fun args w => call_enters Tryz.func295 (by kernel_rfl) rfl args w, fun w hl => changeGood_any x e3 A m c w hl⟩
  rw [if_neg e3]
  by_cases e4 : x.kd = 4
  · rw [if_pos e4]
    exact ⟨_, fun w => good_drop _ _ _ w, fun args w => call_enters Tryz.func296 (by kernel_rfl) rfl args w, fun w hl => dropGood_any x e4 A m c w hl⟩
  rw [if_neg e4]
  have e5 : x.kd = 5 := by omega
  exact ⟨_, fun w => good_fix _ _ _ w, fun args w => call_enters Tryz.func297 (by kernel_rfl) rfl args w, fun w hl => fixGood_any x e5 A m c w hl⟩

theorem k_info : (Tryz.prog.info? 157).map (fun i => (i.zero, i.size, i.bytes)) = some (some .nilIface, 1, 16) := by kernel_rfl
/-- Values of one cell, as rows of data. -/
def litRows (L : List Value) : List (List D) := L.map fun u => [D.lit u]
theorem litRows_snoc (L : List Value) (u : Value) : litRows (L ++ [u]) = litRows L ++ [[D.lit u]] := by simp [litRows]
theorem litRows_len (L : List Value) : (litRows L).length = L.length := by simp [litRows]

/-- The orders behind their kinds, as values; where their lines lie. -/
structure Sees (w : World) (a : Option Addr) (p : List Od) (L : List Value) : Prop where
  at_ : ∀ (k : Nat) x u, p[k]? = some x → L[k]? = some u → (x.kd = 1 ∨ x.kd = 2 ∨ x.kd = 3 ∨ x.kd = 4 ∨ x.kd = 5) ∧ ∃ b off A m c, a = some ⟨b, off, none⟩ ∧ w.cell? ⟨b, off + k * 4 + 3, none⟩ = some (.slice A m c) ∧ Strs w A m x.new ∧ m ≤ c ∧ OdOk x ∧ u = kindV x A m c
theorem Sees.snoc {w : World} {a : Option Addr} {p : List Od} {L : List Value} (h : Sees w a (p.take L.length) L) {x : Od} (hx : p[L.length]? = some x) {b off : Nat} {A : Option Addr} {m c : Nat} (hk : x.kd = 1 ∨ x.kd = 2 ∨ x.kd = 3 ∨ x.kd = 4 ∨ x.kd = 5) (ha : a = some ⟨b, off, none⟩)
    (hc : w.cell? ⟨b, off + L.length * 4 + 3, none⟩ = some (.slice A m c)) (hs : Strs w A m x.new) (hm : m ≤ c) (ho : OdOk x) : Sees w a (p.take (L.length + 1)) (L ++ [kindV x A m c]) := by
  refine ⟨fun k y u hy hu => ?_⟩
  rw [take_snoc hx] at hy
  have hlen : (p.take L.length).length = L.length := by have := (List.getElem?_eq_some_iff.1 hx).1; simp; omega
  rcases list_snoc_get hu with ⟨h1, h2⟩ | ⟨h1, h2⟩
  · rw [List.getElem?_append_left (by omega)] at hy
    exact h.at_ k y u hy h2
  · rw [h1, List.getElem?_append_right (by omega), hlen, Nat.sub_self] at hy
    injection hy with hy
    subst hy h1 h2
    exact ⟨hk, b, off, A, m, c, ha, hc, hs, hm, ho, rfl⟩

theorem wpList_kind {w : World} {ops : Array Oper} {rest : List Oper} {o : Oper} {a : Act} {Q : Exit → Act → World → Prop} (s y : Operand) (base : Nat) (v : Value) (L : List Value) (hown : OwnR w base v 157 1 (litRows L)) (u : Value) (hu : u.oneCell' = true)
    (gb : Nat) (h0 : w.cell? ⟨gb, 0, none⟩ = some u) (hbound : L.length ≤ 1048576) (hbase : base ≤ w.heap.size)
    (hgd : Region.wanted o (yielded ops a.tmps) = true) (ho : o.op = .call { callee := .builtin .append, args := #[s, y], argTypes := #[82, 82] }) (hs : a.eval s = v) (hy : a.eval y = .slice (some ⟨gb, 0, none⟩) 1 1)
    (h : ∀ v' w', OwnR w' base v' 157 1 (litRows (L ++ [u])) → w.grownBy w' v.ownBlock → (v'.ownBlock = v.ownBlock ∨ v'.ownBlock = some w.heap.size) → wpList Tryz.prog ops Q rest (a.put o.dst v') w') : wpList Tryz.prog ops Q (o :: rest) a w := by
  obtain ⟨i, q1, q2, q3, q4⟩ := info_parts k_info
  refine wpList_app_R Tryz.underlying82 q1 q2 q3 q4 (by simp [Value.cells]) (by omega) s y base v (litRows L) hown [.lit u] rfl ⟨hu, trivial⟩ (by simp [D.blocksL, D.blocks]) (fun g hg => by simp [D.blocksL, D.blocks] at hg) ⟨gb, 0, none⟩ 1 (fun j d hj => ?_) (by rw [litRows_len]; exact hbound) (by omega) hbase hgd ho hs hy (fun v' w' o' => h v' w' (by rw [litRows_snoc]; exact o'))
  match j with
  | 0 => simp at hj; subst hj; rw [add_at]; exact h0
  | j + 1 => simp at hj

set_option maxHeartbeats 2000000 in
set_option maxRecDepth 100000 in
theorem goodOrders_any (a : Option Addr) (n c : Nat) (p : List Od) (w : World) (hp : Ods w a n p) :
    Calls Tryz.prog 65 #[.slice a n c] w fun e w' => ∃ A m d L, e = .returned (.tuple #[.slice A m d, .bool (ordersB p)]) ∧ (ordersB p = true → m = n ∧ OwnR w' w.heap.size (.slice A m d) 157 1 (litRows L) ∧ Sees w a p L) ∧ Below w.heap.size w w' := by
  have HN := Lib.hid hp.len
  by_cases h60 : 60 < n
  · have hf := Lib.hid (orders_many (p := p) (by rw [HN.out]; omega))
    go_enter Tryz.func65, Tryz.ntmps65
    go_wp2
    go_ret2
    exact ⟨none, 0, 0, [], by rw [hf.out]; rfl, fun e => (by rw [hf.out] at e; cases e), Below.refl _ _⟩
  go_enter Tryz.func65, Tryz.ntmps65
  go_wp2
  go_loopw [4, 13] (fun all i w' => ∃ (j : Nat) (v : Value) (L : List Value), i = .int .i64 j ∧ v = all ∧ j ≤ n ∧ OwnR w' w.heap.size v 157 1 (litRows L) ∧ Hid (L.length = j) ∧ Hid (Sees w a (p.take j) L) ∧ Hid (∀ (k : Nat) x, k < j → p[k]? = some x → orderB x = true) ∧ Below w.heap.size w w') (fun _ i _ => n - (intOf i).toNat)
  case atStart => exact ⟨0, _, [], rfl, rfl, by omega, OwnR.nil_, Lib.hid rfl, Lib.hid ⟨fun k x u hx hu => by simp at hu⟩, Lib.hid (fun k x hk => by omega), Below.refl _ _⟩
  case round =>
    obtain ⟨j, v, L, rfl, rfl, hj, ho, HL, HS, HG, hb⟩ := hrel
    by_cases hlt : j < n
    · obtain ⟨b, off, A, mm, cm, x, rfl, hx, d0, d1, d2, d3, hs, hmc, hok⟩ := (hp.below hb).at_ hlt
      have HX := Lib.hid hx
      have HO := Lib.hid ho
      have HB := Lib.hid hb
      have HOK := Lib.hid hok
      have HST := Lib.hid hs
      have HD := Lib.hid (show OdC wr b (off + j * 4) x A mm cm from ⟨d0, d1, d2, d3⟩)
      have HAT := Lib.hid (show w.cell? ⟨b, off + j * 4 + 3, none⟩ = some (.slice A mm cm) ∧ Strs w A mm x.new from by
        obtain ⟨b', off', A', m', c', x', e1, e2, _, _, _, e3, e4, _, _⟩ := hp.at_ hlt
        injection e1 with e1
        injection e1 with e5 e6 _
        subst e5 e6
        rw [hx] at e2
        injection e2 with e2
        subst e2
        have e7 := cell_keep hb e3
        rw [d3] at e7
        injection e7 with e7
        injection e7 with e8 e9 e10
        subst e8 e9 e10
        exact ⟨e3, e4⟩)
      clear hx ho hb hok hs d0 d1 d2 d3
      have hi0 : (0 : Int) ≤ (j : Int) := by omega
      have hi1 : (j : Int) < (n : Int) := by omega
      by_cases hkd : x.kd = 1 ∨ x.kd = 2 ∨ x.kd = 3 ∨ x.kd = 4 ∨ x.kd = 5
      · have HKD := Lib.hid hkd
        obtain ⟨F, hm, hen, hF⟩ := kind_good x hkd A mm cm
        have HF := Lib.hid hF
        obtain ⟨T, HT⟩ : ∃ T, Hid (kindT x.kd = T) := ⟨_, rfl⟩
        rw [HT.out] at hm
        have HR := Lib.hid (show kindR x A mm cm = .tuple #[.iface T (.agg #[.int .i64 x.fr, .int .i64 x.to_, .slice A mm cm]), .bool true] by rw [kindR_yes A mm cm hkd]; unfold kindV; rw [HT.out])
        clear hkd hF
        go_wp2_with fail
        refine (orderOf_any b (off + j * 4) x A mm cm _ HD.out).mono ?_
        rintro e w1 ⟨rfl, b1⟩
        rw [HR.out]
        cases hgd : orderB x
        · have hf := Lib.hid (orders_bad_at HX.out hgd)
          have HGD := Lib.hid hgd
          clear hgd
          go_wp2_with fail
          refine (HF.out _ (HST.out.below b1)).mono ?_
          rintro e w2 ⟨rfl, b2⟩
          rw [HGD.out]
          go_wp2
          go_ret2
          exact ⟨none, 0, 0, [], by rw [hf.out]; rfl, fun e => (by rw [hf.out] at e; cases e), (HB.out.next b1).next b2⟩
        · have HGD := Lib.hid hgd
          clear hgd
          go_wp2_with fail
          refine (HF.out _ (HST.out.below b1)).mono ?_
          rintro e w2 ⟨rfl, b2⟩
          rw [HGD.out]
          have HB2 := Lib.hid ((HB.out.next b1).next b2)
          have HO2 := Lib.hid ((HO.out.below b1).below b2)
          have hz2 := Lib.hid HB2.out.size
          clear b1 b2
          go_wp2_with (at_builtin; refine wpList_kind (.tmp 30) (.tmp 32) w.heap.size v L (HO2.out.below (below_alloc _ _)) (.iface T (.agg #[.int .i64 x.fr, .int .i64 x.to_, .slice A mm cm])) rfl w2.heap.size (by simp) (by rw [HL.out]; omega) (by have := hz2.out; simp; omega) rfl rfl rfl rfl ?_; intro v3 w3 o3 g3 p3)
          go_roundw
          case rel =>
            refine ⟨j + 1, v3, _, by go_num, rfl, by omega, o3, Lib.hid (by simp [HL.out]), Lib.hid ?_, Lib.hid (fun k y hk hy => ?_), ?_⟩
            · have h1 := HS.out
              have h2 := HL.out
              rw [← h2] at h1 ⊢
              have h3 := Sees.snoc h1 (x := x) (by rw [h2]; exact HX.out) HKD.out rfl (by rw [h2]; exact HAT.out.1) HAT.out.2 hmc HOK.out
              unfold kindV at h3
              rw [HT.out] at h3
              exact h3
            · rcases Nat.lt_or_ge k j with h | h
              · exact HG.out k y h hy
              · have : k = j := by omega
                subst this
                rw [HX.out] at hy
                injection hy with hy
                rw [← hy, HGD.out]
            · exact (HB2.out.next (below_alloc _ _)).grown g3 (by have := hz2.out; simp; omega) (fun g e => (HO2.out.lt ((by unfold BlkR; simp [e]))).1)
          case measure => simp [intOf]; omega
      · have HR := Lib.hid (kindR_no A mm cm hkd)
        have hf := Lib.hid (orders_bad_at HX.out (orderB_not hkd))
        clear hkd
        go_wp2_with fail
        refine (orderOf_any b (off + j * 4) x A mm cm _ HD.out).mono ?_
        rintro e w1 ⟨rfl, b1⟩
        rw [HR.out]
        go_wp2
        go_ret2
        exact ⟨none, 0, 0, [], by rw [hf.out]; rfl, fun e => (by rw [hf.out] at e; cases e), HB.out.next b1⟩
    · have hf := Lib.hid (show ordersB p = true from orders_ok (fun k x hx => HG.out k x (by have := (List.getElem?_eq_some_iff.1 hx).1; have := HN.out; omega) hx) (by rw [HN.out]; omega))
      have htk := Lib.hid (show p.take j = p from List.take_of_length_le (by rw [HN.out]; omega))
      have hjn : j = n := by omega
      obtain ⟨A, d, rfl, _, _⟩ := ho.form (n := j) (by rw [litRows_len]; exact HL.out)
      go_wp2
      go_ret2
      refine ⟨A, j, d, L, by rw [hf.out]; rfl, fun _ => ⟨hjn, ho, ?_⟩, hb⟩
      have := HS.out
      rw [htk.out] at this
      exact this

theorem implGoodOrders_any (a : Option Addr) (n c : Nat) (p : List Od) (w : World) (hp : Ods w a n p) :
    Calls Tryz.prog 13 #[.slice a n c] w fun e w' => e = .returned (.bool (ordersB p)) ∧ Below w.heap.size w w' := by
  go_enter Tryz.func13, Tryz.ntmps13
  go_wp2_with fail
  refine (goodOrders_any a n c p _ hp).mono ?_
  rintro e w1 ⟨A, m, d, L, rfl, _, b1⟩
  go_wp2
  go_ret
  exact ⟨rfl, b1⟩

end Go.Proofs.YtnnaigoomipklaaGreatDoor
