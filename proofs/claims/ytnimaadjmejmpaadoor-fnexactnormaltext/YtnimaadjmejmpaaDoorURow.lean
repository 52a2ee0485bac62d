/-
  A slice of structs as a list of rows of data: what is written into it, and what stays.
-/
import Derived.Test.YtnimaadjmejmpaaDoorUMem
set_option linter.unusedSimpArgs false
set_option linter.unusedVariables false
namespace Go.Proofs.YtnimaadjmejmpaaDoor
open Go.RowKit Go.ChangeShapes Go.WideShapes M

section
variable {α : Type} {sz : Nat}
theorem flat_len : ∀ {rows : List (List α)}, (∀ r ∈ rows, r.length = sz) → rows.flatten.length = rows.length * sz
  | [], _ => by simp
  | r :: rows, h => by
    have h1 := h r (by simp)
    have h2 := flat_len (rows := rows) (fun q hq => h q (by simp [hq]))
    rw [List.flatten_cons, List.length_append, h1, h2, List.length_cons, Nat.add_mul, Nat.one_mul, Nat.add_comm]
theorem flat_get : ∀ {rows : List (List α)} {k j : Nat} {r : List α}, (∀ r ∈ rows, r.length = sz) → rows[k]? = some r → j < sz → rows.flatten[k * sz + j]? = r[j]?
  | [], k, j, r, _, hk, _ => by simp at hk
  | q :: rows, 0, j, r, h, hk, hj => by
    simp at hk
    subst hk
    rw [List.flatten_cons, Nat.zero_mul, Nat.zero_add, List.getElem?_append_left (by rw [h q (by simp)]; exact hj)]
  | q :: rows, k + 1, j, r, h, hk, hj => by
    have h1 := h q (by simp)
    rw [List.flatten_cons, List.getElem?_append_right (by rw [h1, Nat.add_mul]; omega), h1, show (k + 1) * sz + j - sz = k * sz + j by rw [Nat.add_mul]; omega]
    exact flat_get (fun q hq => h q (by simp [hq])) (by simpa using hk) hj
theorem flat_set : ∀ {rows : List (List α)} {k j : Nat} {r : List α} {d : α}, (∀ r ∈ rows, r.length = sz) → rows[k]? = some r → j < sz → rows.flatten.set (k * sz + j) d = (rows.set k (r.set j d)).flatten
  | [], k, j, r, d, _, hk, _ => by simp at hk
  | q :: rows, 0, j, r, d, h, hk, hj => by
    simp at hk
    subst hk
    rw [List.flatten_cons, Nat.zero_mul, Nat.zero_add, List.set_append, if_pos (by rw [h q (by simp)]; exact hj), List.set_cons_zero, List.flatten_cons]
  | q :: rows, k + 1, j, r, d, h, hk, hj => by
    have h1 := h q (by simp)
    rw [List.flatten_cons, List.set_append, if_neg (by rw [h1, Nat.add_mul]; omega), h1, show (k + 1) * sz + j - sz = k * sz + j by rw [Nat.add_mul]; omega, List.set_cons_succ, List.flatten_cons, flat_set (fun q hq => h q (by simp [hq])) (by simpa using hk) hj]
end

theorem D.blocks_mem {g : Nat} {d : D} : ∀ {cs : List D} {p : Nat}, cs[p]? = some d → g ∈ d.blocks → g ∈ D.blocksL cs
  | [], p, h, _ => by simp at h
  | c :: r, 0, h, hg => by simp at h; subst h; rw [D.blocksL]; simp [hg]
  | c :: r, p + 1, h, hg => by rw [D.blocksL]; simp [D.blocks_mem (cs := r) (p := p) (by simpa using h) hg]
theorem D.blocksL_same {d d' : D} (e : d'.blocks = d.blocks) : ∀ {cs : List D} {p : Nat}, cs[p]? = some d → D.blocksL (cs.set p d') = D.blocksL cs
  | [], p, h => by simp at h
  | c :: r, 0, h => by simp at h; subst h; rw [List.set_cons_zero, D.blocksL, D.blocksL, e]
  | c :: r, p + 1, h => by rw [List.set_cons_succ, D.blocksL, D.blocksL, D.blocksL_same e (by simpa using h)]
theorem D.ownL_renew {w w' : World} {base : Nat} {d d' : D} (hw : Wrote (fun g => g ∈ d.blocks) w w') (hd : d'.own w' base) : ∀ {cs : List D} {p : Nat}, D.ownL w base cs → (D.blocksL cs).Nodup → cs[p]? = some d → D.ownL w' base (cs.set p d')
  | [], p, _, _, h => by simp at h
  | c :: r, 0, ho, hn, h => by
    simp at h
    subst h
    rw [D.blocksL, List.nodup_append] at hn
    exact ⟨hd, D.ownL_wrote ho.2 hw (fun g hg e => hn.2.2 g e g hg rfl)⟩
  | c :: r, p + 1, ho, hn, h => by
    rw [D.blocksL, List.nodup_append] at hn
    have hr : r[p]? = some d := by simpa using h
    exact ⟨D.own_wrote ho.1 hw (fun g hg e => hn.2.2 g hg g (D.blocks_mem hr e) rfl), D.ownL_renew hw hd ho.2 hn.2.1 hr⟩
/-- What a cell leads to is written, in the blocks that it has. -/
theorem Owns.renew {w w' : World} {base n sz p : Nat} {v : Value} {t : TypeId} {cs : List D} {d d' : D} (h : Owns w base (.sl v t sz n cs)) (hp : cs[p]? = some d) (hw : Wrote (fun g => g ∈ d.blocks) w w') (hd : d'.own w' base) (hb : d'.blocks = d.blocks) (hv : d'.val = d.val) :
    Owns w' base (.sl v t sz n (cs.set p d')) := by
  have hn := h.nodup
  rw [D.blocks, List.nodup_append] at hn
  refine ⟨⟨?_, D.ownL_renew hw hd h.own.2 hn.2.1 hp⟩, by rw [D.blocks, D.blocksL_same hb hp, ← D.blocks]; exact h.nodup⟩
  have e : (cs.set p d').map D.val = cs.map D.val := by
    rw [List.map_set, hv]
    apply List.ext_getElem?
    intro i
    by_cases hi : p = i
    · subst hi
      have hlt : p < (cs.map D.val).length := by rw [List.length_map]; exact (List.getElem?_eq_some_iff.1 hp).1
      rw [List.getElem?_set, if_pos rfl, if_pos hlt, List.getElem?_map, hp]
      rfl
    · rw [List.getElem?_set, if_neg hi]
  rw [e]
  exact ownsRow_wrote h.own.1 hw (fun g e1 e2 => hn.2.2 g (by simp [e1]) g (D.blocks_mem hp e2) rfl)

theorem D.blocksL_put_mem {g : Nat} {d' : D} : ∀ {cs : List D} {p : Nat}, g ∈ D.blocksL (cs.set p d') → g ∈ d'.blocks ∨ g ∈ D.blocksL cs
  | [], p, h => by simp [D.blocksL] at h
  | c :: r, 0, h => by
    rw [List.set_cons_zero, D.blocksL] at h
    rcases List.mem_append.1 h with h | h
    · exact .inl h
    · exact .inr (by rw [D.blocksL]; simp [h])
  | c :: r, p + 1, h => by
    rw [List.set_cons_succ, D.blocksL] at h
    rcases List.mem_append.1 h with h | h
    · exact .inr (by rw [D.blocksL]; simp [h])
    · rcases D.blocksL_put_mem h with h | h
      · exact .inl h
      · exact .inr (by rw [D.blocksL]; simp [h])
theorem D.blocksL_put {d' : D} (hd : d'.blocks.Nodup) : ∀ {cs : List D} {p : Nat}, (D.blocksL cs).Nodup → (∀ g ∈ d'.blocks, g ∉ D.blocksL cs) → (D.blocksL (cs.set p d')).Nodup
  | [], p, h, _ => by simpa using h
  | c :: r, 0, h, hf => by
    rw [D.blocksL, List.nodup_append] at h
    rw [List.set_cons_zero, D.blocksL, List.nodup_append]
    exact ⟨hd, h.2.1, fun a ha b hb e => hf a ha (by rw [D.blocksL, e]; simp [hb])⟩
  | c :: r, p + 1, h, hf => by
    rw [D.blocksL, List.nodup_append] at h
    rw [List.set_cons_succ, D.blocksL, List.nodup_append]
    refine ⟨h.1, D.blocksL_put hd h.2.1 (fun g hg e => hf g hg (by rw [D.blocksL]; simp [e])), fun a ha b hb e => ?_⟩
    rcases D.blocksL_put_mem hb with hb | hb
    · exact hf b hb (by rw [D.blocksL, ← e]; simp [ha])
    · exact h.2.2 a ha b hb e
theorem D.ownL_put {w : World} {base : Nat} {d' : D} (hd : d'.own w base) : ∀ {cs : List D} {p : Nat}, D.ownL w base cs → D.ownL w base (cs.set p d')
  | [], p, h => by simpa using h
  | c :: r, 0, h => ⟨hd, h.2⟩
  | c :: r, p + 1, h => ⟨h.1, D.ownL_put hd h.2⟩
/-- One cell is written with a datum whose blocks are of the call's own and apart from all others. -/
theorem Owns.put {w : World} {base g n cap sz p : Nat} {t : TypeId} {cs : List D} {d' : D} (h : Owns w base (.sl (.slice (some ⟨g, 0, none⟩) n cap) t sz n cs)) (hd : Owns w base d') (hf : ∀ i ∈ d'.blocks, i ∉ (D.sl (.slice (some ⟨g, 0, none⟩) n cap) t sz n cs).blocks) :
    Owns (w.setCell ⟨g, p, none⟩ d'.val) base (.sl (.slice (some ⟨g, 0, none⟩) n cap) t sz n (cs.set p d')) := by
  have hn := h.nodup
  rw [D.blocks, List.nodup_append] at hn
  have hw : Wrote (fun i => i = g) w (w.setCell ⟨g, p, none⟩ d'.val) := Wrote.set _ w _ _ rfl
  have hgb : g ∈ (D.sl (.slice (some ⟨g, 0, none⟩) n cap) t sz n cs).blocks := by rw [D.blocks]; simp [Value.ownBlock]
  refine ⟨⟨?_, D.ownL_put (D.own_wrote hd.own hw (fun i hi e => hf i hi (e ▸ hgb))) (D.ownL_wrote h.own.2 hw (fun i hi e => hn.2.2 i (by rw [e]; simp [Value.ownBlock]) i hi rfl))⟩, ?_⟩
  · rw [List.map_set]; exact (h.own.1.stored p d'.val).1
  · rw [D.blocks, List.nodup_append]
    refine ⟨hn.1, D.blocksL_put hd.nodup hn.2.1 (fun i hi e => hf i hi (by rw [D.blocks]; simp [e])), fun a ha b hb e => ?_⟩
    have ha2 : a = g := by simpa [Value.ownBlock, eq_comm] using ha
    rcases D.blocksL_put_mem hb with hb | hb
    · exact hf b hb (by rw [← e, ha2]; exact hgb)
    · exact hn.2.2 a ha b hb e
theorem Owns.lit {w : World} {base : Nat} {v : Value} (h : v.oneCell' = true) : Owns w base (.lit v) := ⟨h, by simp [D.blocks]⟩

/-- A slice of structs of the call's own, as rows. -/
structure OwnR (w : World) (base : Nat) (v : Value) (t : TypeId) (sz : Nat) (rows : List (List D)) : Prop where
  own : Owns w base (.sl v t sz rows.length rows.flatten)
  wide : ∀ r ∈ rows, r.length = sz
/-- Its blocks. -/
def BlkR (v : Value) (rows : List (List D)) (g : Nat) : Prop := g ∈ v.ownBlock.toList ++ D.blocksL rows.flatten

section
variable {S : Nat → Prop} {w w' : World} {base n cap g k j sz : Nat} {v : Value} {A : Option Addr} {t : TypeId} {rows : List (List D)} {r : List D} {d : D}
theorem OwnR.lt (h : OwnR w base v t sz rows) (hg : BlkR v rows g) : base ≤ g ∧ g < w.heap.size := D.own_lt h.own.own hg
theorem OwnR.wrote (h : OwnR w base v t sz rows) (hw : Wrote S w w') (hn : ∀ g, BlkR v rows g → ¬ S g) : OwnR w' base v t sz rows := ⟨h.own.wrote hw (fun g hg => hn g hg), h.wide⟩
theorem OwnR.below (h : OwnR w base v t sz rows) (hb : Below w.heap.size w w') : OwnR w' base v t sz rows := ⟨h.own.below hb, h.wide⟩
theorem OwnR.more {b2 : Nat} (h : OwnR w base v t sz rows) (hb : b2 ≤ base) : OwnR w b2 v t sz rows := ⟨h.own.more hb, h.wide⟩
theorem OwnR.form (h : OwnR w base v t sz rows) (hn : rows.length = n) : ∃ A cap, v = .slice A n cap ∧ n ≤ cap ∧ cap ≤ maxLen := by subst hn; exact h.own.form
theorem OwnR.nil_ : OwnR w base (.slice none 0 0) t sz [] := ⟨Owns.nil_ w base t sz, fun r hr => by simp at hr⟩
theorem OwnR.len (h : OwnR w base (.slice A n cap) t sz rows) : rows.length = n := by
  obtain ⟨A', cap', e, _⟩ := h.own.form
  injection e with e1 e2 e3
  exact e2.symm
theorem OwnR.addr (h : OwnR w base (.slice A n cap) t sz rows) (hk : k < n) : ∃ g r, A = some ⟨g, 0, none⟩ ∧ base ≤ g ∧ g < w.heap.size ∧ rows[k]? = some r := by
  have hl := h.len
  rcases h.own.own.1.2 with ⟨e, h0⟩ | ⟨g, cap', cur, e, hb, hg, _⟩
  · injection e with e1 e2 e3; omega
  · injection e with e1 e2 e3
    subst e1
    exact ⟨g, _, rfl, hb, (Array.getElem?_eq_some_iff.1 hg).1, List.getElem?_eq_getElem (show k < rows.length by omega)⟩
theorem OwnR.cell (h : OwnR w base (.slice (some ⟨g, 0, none⟩) n cap) t sz rows) (hk : rows[k]? = some r) (hj : r[j]? = some d) : w.cell? ⟨g, k * sz + j, none⟩ = some d.val := by
  have hl := h.len
  have hj2 : j < sz := by rw [← h.wide r (List.mem_of_getElem? hk)]; exact (List.getElem?_eq_some_iff.1 hj).1
  have ho := h.own
  rw [hl] at ho
  exact ho.cell (by rw [flat_get h.wide hk hj2]; exact hj)
theorem OwnR.datum (h : OwnR w base v t sz rows) (hk : rows[k]? = some r) (hj : r[j]? = some d) : d.own w base := by
  have hj2 : j < sz := by rw [← h.wide r (List.mem_of_getElem? hk)]; exact (List.getElem?_eq_some_iff.1 hj).1
  exact h.own.at_ (j := k * sz + j) (by rw [flat_get h.wide hk hj2]; exact hj)
theorem OwnR.free (h : OwnR w base (.slice (some ⟨g, 0, none⟩) n cap) t sz rows) (j : Nat) : w.frozen? ⟨g, j, none⟩ = false := by
  have hl := h.len
  have ho := h.own
  rw [hl] at ho
  exact ho.free j
theorem wide_set (h : ∀ r ∈ rows, r.length = sz) {r' : List D} (hr : r'.length = sz) : ∀ q ∈ rows.set k r', q.length = sz := by
  intro q hq
  rcases List.mem_or_eq_of_mem_set hq with h1 | h1
  · exact h q h1
  · rw [h1, hr]
/-- One cell that points nowhere is written. -/
theorem OwnR.set {x u : Value} (h : OwnR w base (.slice (some ⟨g, 0, none⟩) n cap) t sz rows) (hk : rows[k]? = some r) (hj : r[j]? = some (.lit x)) (hu : u.oneCell' = true) :
    OwnR (w.setCell ⟨g, k * sz + j, none⟩ u) base (.slice (some ⟨g, 0, none⟩) n cap) t sz (rows.set k (r.set j (.lit u))) := by
  have hl := h.len
  have hr := h.wide r (List.mem_of_getElem? hk)
  have hj2 : j < sz := by rw [← hr]; exact (List.getElem?_eq_some_iff.1 hj).1
  have ho := h.own
  rw [hl] at ho
  refine ⟨?_, wide_set h.wide (by simpa using hr)⟩
  rw [List.length_set, hl, ← flat_set h.wide hk hj2]
  exact ho.set (by rw [flat_get h.wide hk hj2]; exact hj) hu
/-- One cell is written with a datum of the call's own. -/
theorem OwnR.put {d' : D} (h : OwnR w base (.slice (some ⟨g, 0, none⟩) n cap) t sz rows) (hk : rows[k]? = some r) (hj : j < sz) (hd : Owns w base d') (hf : ∀ i ∈ d'.blocks, ¬ BlkR (.slice (some ⟨g, 0, none⟩) n cap) rows i) :
    OwnR (w.setCell ⟨g, k * sz + j, none⟩ d'.val) base (.slice (some ⟨g, 0, none⟩) n cap) t sz (rows.set k (r.set j d')) := by
  have hl := h.len
  have hr := h.wide r (List.mem_of_getElem? hk)
  have ho := h.own
  rw [hl] at ho
  refine ⟨?_, wide_set h.wide (by simpa using hr)⟩
  rw [List.length_set, hl, ← flat_set h.wide hk hj]
  exact ho.put hd hf
theorem OwnR.renew {d' : D} (h : OwnR w base v t sz rows) (hk : rows[k]? = some r) (hj : r[j]? = some d) (hw : Wrote (fun g => g ∈ d.blocks) w w') (hd : d'.own w' base) (hb : d'.blocks = d.blocks) (hv : d'.val = d.val) :
    OwnR w' base v t sz (rows.set k (r.set j d')) := by
  have hr := h.wide r (List.mem_of_getElem? hk)
  have hj2 : j < sz := by rw [← hr]; exact (List.getElem?_eq_some_iff.1 hj).1
  refine ⟨?_, wide_set h.wide (by simpa using hr)⟩
  rw [List.length_set, ← flat_set h.wide hk hj2]
  exact h.own.renew (by rw [flat_get h.wide hk hj2]; exact hj) hw hd hb hv
theorem BlkR.of_row (hk : rows[k]? = some r) (hw : ∀ r ∈ rows, r.length = sz) (hj : r[j]? = some d) (hg : g ∈ d.blocks) : BlkR v rows g := by
  have hj2 : j < sz := by rw [← hw r (List.mem_of_getElem? hk)]; exact (List.getElem?_eq_some_iff.1 hj).1
  exact List.mem_append.2 (.inr (D.blocks_mem (p := k * sz + j) (by rw [flat_get hw hk hj2]; exact hj) hg))
theorem BlkR.of_self : BlkR (.slice (some ⟨g, 0, none⟩) n cap) rows g := by simp [BlkR, Value.ownBlock]
theorem blk_set {d' : D} {v : Value} (hw : ∀ r ∈ rows, r.length = sz) (hk : rows[k]? = some r) (hj : j < sz) (hg : BlkR v (rows.set k (r.set j d')) g) : BlkR v rows g ∨ g ∈ d'.blocks := by
  rcases List.mem_append.1 hg with h1 | h1
  · exact .inl (List.mem_append.2 (.inl h1))
  · rw [← flat_set hw hk hj] at h1
    rcases D.blocksL_put_mem h1 with h2 | h2
    · exact .inr h2
    · exact .inl (List.mem_append.2 (.inr h2))
/-- Two data of one row, or of two, have no block in common. -/
theorem nodup_at : ∀ {cs : List D} {p q : Nat} {d e : D}, (D.blocksL cs).Nodup → cs[p]? = some d → cs[q]? = some e → p ≠ q → ∀ g ∈ d.blocks, g ∉ e.blocks
  | [], p, q, d, e, _, hp, _, _ => by simp at hp
  | c :: r, 0, 0, d, e, _, _, _, hne => absurd rfl hne
  | c :: r, 0, q + 1, d, e, hn, hp, hq, _ => by
    rw [D.blocksL, List.nodup_append] at hn
    simp at hp
    subst hp
    intro g hg he
    exact hn.2.2 g hg g (D.blocks_mem (cs := r) (p := q) (by simpa using hq) he) rfl
  | c :: r, p + 1, 0, d, e, hn, hp, hq, _ => by
    rw [D.blocksL, List.nodup_append] at hn
    simp at hq
    subst hq
    intro g hg he
    exact hn.2.2 g he g (D.blocks_mem (cs := r) (p := p) (by simpa using hp) hg) rfl
  | c :: r, p + 1, q + 1, d, e, hn, hp, hq, hne => by
    rw [D.blocksL, List.nodup_append] at hn
    exact nodup_at hn.2.1 (by simpa using hp) (by simpa using hq) (by omega)
theorem OwnR.self_apart (h : OwnR w base (.slice (some ⟨g, 0, none⟩) n cap) t sz rows) (hk : rows[k]? = some r) (hj : r[j]? = some d) : g ∉ d.blocks := by
  intro hg
  have hj2 : j < sz := by rw [← h.wide r (List.mem_of_getElem? hk)]; exact (List.getElem?_eq_some_iff.1 hj).1
  have hn := h.own.nodup
  rw [D.blocks, List.nodup_append] at hn
  exact hn.2.2 g (by simp [Value.ownBlock]) g (D.blocks_mem (p := k * sz + j) (by rw [flat_get h.wide hk hj2]; exact hj) hg) rfl
end

/-- One row is appended. -/
theorem run_app_R {w : World} {st ty t : TypeId} {i : TypeInfo} {z : Value} {sz bytes : Nat} (ht : Tryd.prog.underlying st = some (.slice t)) (hi : Tryd.prog.info? t = some i) (hz : i.zero = some z) (hsize : i.size = sz) (hby : i.bytes = bytes) (hzs : z.cells.size = sz) (hsz : 0 < sz)
    (base : Nat) (v : Value) (rows : List (List D)) (ho : OwnR w base v t sz rows) (r : List D) (hl : r.length = sz) (he : D.ownL w base r) (hnd : (D.blocksL r).Nodup) (hap : ∀ g ∈ D.blocksL r, ¬ BlkR v rows g)
    (a : Addr) (c : Nat) (hc : ∀ j d, r[j]? = some d → w.cell? (a.add j) = some d.val) (hbound : rows.length ≤ 1048576) (hbytes : bytes ≤ 4096) (hbase : base ≤ w.heap.size) :
    ∃ v' w', (Builtin.append_ #[st, st] ty #[v, .slice (some a) 1 c]).run Tryd.prog w = .ok v' w' ∧ OwnR w' base v' t sz (rows ++ [r]) ∧ w.grownBy w' v.ownBlock ∧ (v'.ownBlock = v.ownBlock ∨ v'.ownBlock = some w.heap.size) := by
  have hmul : (rows.length + 1) * bytes ≤ 1048577 * 4096 := Nat.mul_le_mul (by omega) hbytes
  obtain ⟨v', w', h1, h2, h3, h4⟩ := run_app_D (ty := ty) ht hi hz hsize hby hzs hsz base v rows.length rows.flatten ho.own r 1 (by omega) he hnd hap a c hc (by unfold maxLen; omega) (by omega) hbase
  refine ⟨v', w', h1, ⟨?_, fun q hq => ?_⟩, h3, h4⟩
  · rw [List.length_append, List.flatten_append]
    simpa using h2
  · rcases List.mem_append.1 hq with hq | hq
    · exact ho.wide q hq
    · simp at hq; rw [hq, hl]
theorem step_app_R {w : World} {st t : TypeId} {i : TypeInfo} {z : Value} {sz bytes : Nat} (ht : Tryd.prog.underlying st = some (.slice t)) (hi : Tryd.prog.info? t = some i) (hz : i.zero = some z) (hsize : i.size = sz) (hby : i.bytes = bytes) (hzs : z.cells.size = sz) (hsz : 0 < sz)
    {ops : Array Oper} {o : Oper} {q : Act} {K : Act → World → Prop} {Q : Exit → Act → World → Prop} {E : Prop} (s x : Operand)
    (base : Nat) (v : Value) (rows : List (List D)) (ho : OwnR w base v t sz rows) (r : List D) (hl : r.length = sz) (he : D.ownL w base r) (hnd : (D.blocksL r).Nodup) (hap : ∀ g ∈ D.blocksL r, ¬ BlkR v rows g)
    (a : Addr) (c : Nat) (hc : ∀ j d, r[j]? = some d → w.cell? (a.add j) = some d.val) (hbound : rows.length ≤ 1048576) (hbytes : bytes ≤ 4096) (hbase : base ≤ w.heap.size)
    (hgd : Region.wanted o (yielded ops q.tmps) = true) (hop : o.op = .call { callee := .builtin .append, args := #[s, x], argTypes := #[st, st] }) (hs : q.eval s = v) (hx : q.eval x = .slice (some a) 1 c)
    (h : ∀ v' w', OwnR w' base v' t sz (rows ++ [r]) → w.grownBy w' v.ownBlock → (v'.ownBlock = v.ownBlock ∨ v'.ownBlock = some w.heap.size) → K (q.put o.dst v') w') : if Region.wanted o (yielded ops q.tmps) = true then Oper.wp Tryd.prog o q w K Q else E := by
  rw [if_pos hgd]
  obtain ⟨v', w', hrun, h1, h2, h3⟩ := run_app_R (ty := o.type) ht hi hz hsize hby hzs hsz base v rows ho r hl he hnd hap a c hc hbound hbytes hbase
  unfold Oper.wp execOp
  simp only [hop, resolve, invoke, builtin, Sem.run_bind, Sem.run_pure, Result.andThen_ok, List.map_toArray, List.map_cons, List.map_nil, hs, hx, hrun]
  exact h v' w' h1 h2 h3
theorem wpList_app_R {w : World} {st t : TypeId} {i : TypeInfo} {z : Value} {sz bytes : Nat} (ht : Tryd.prog.underlying st = some (.slice t)) (hi : Tryd.prog.info? t = some i) (hz : i.zero = some z) (hsize : i.size = sz) (hby : i.bytes = bytes) (hzs : z.cells.size = sz) (hsz : 0 < sz)
    {ops : Array Oper} {rest : List Oper} {o : Oper} {q : Act} {Q : Exit → Act → World → Prop} (s x : Operand)
    (base : Nat) (v : Value) (rows : List (List D)) (ho : OwnR w base v t sz rows) (r : List D) (hl : r.length = sz) (he : D.ownL w base r) (hnd : (D.blocksL r).Nodup) (hap : ∀ g ∈ D.blocksL r, ¬ BlkR v rows g)
    (a : Addr) (c : Nat) (hc : ∀ j d, r[j]? = some d → w.cell? (a.add j) = some d.val) (hbound : rows.length ≤ 1048576) (hbytes : bytes ≤ 4096) (hbase : base ≤ w.heap.size)
    (hgd : Region.wanted o (yielded ops q.tmps) = true) (hop : o.op = .call { callee := .builtin .append, args := #[s, x], argTypes := #[st, st] }) (hs : q.eval s = v) (hx : q.eval x = .slice (some a) 1 c)
    (h : ∀ v' w', OwnR w' base v' t sz (rows ++ [r]) → w.grownBy w' v.ownBlock → (v'.ownBlock = v.ownBlock ∨ v'.ownBlock = some w.heap.size) → wpList Tryd.prog ops Q rest (q.put o.dst v') w') : wpList Tryd.prog ops Q (o :: rest) q w := by
  obtain ⟨v', w', hrun, h1, h2, h3⟩ := run_app_R (ty := o.type) ht hi hz hsize hby hzs hsz base v rows ho r hl he hnd hap a c hc hbound hbytes hbase
  refine wpList_wanted hgd fun K hK => ?_
  unfold Oper.wp execOp
  simp only [hop, resolve, invoke, builtin, Sem.run_bind, Sem.run_pure, Result.andThen_ok, List.map_toArray, List.map_cons, List.map_nil, hs, hx, hrun]
  exact hK _ _ (h v' w' h1 h2 h3)

end Go.Proofs.YtnimaadjmejmpaaDoor
