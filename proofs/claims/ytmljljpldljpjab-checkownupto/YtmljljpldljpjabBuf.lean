/-
  Bytes of one's own, from anywhere in their block, and append onto them.
-/
import Derived.Test.YtmljljpldljpjabBase
import Derived.Maps.AppendAt
namespace Go.Proofs.Ytmljljpldljpjab
open Go.RowKit
set_option linter.unusedVariables false
set_option linter.unusedSimpArgs false
def Buf (w : World) (base : Nat) (v : Value) (zs : List Int) : Prop :=
  Octets zs ∧ ((v = .slice none 0 0 ∧ zs = []) ∨ ∃ g off cap cur, v = .slice (some ⟨g, off, none⟩) zs.length cap ∧ base ≤ g ∧ w.heap[g]? = some (.cells cur 5 (0, 0)) ∧ zs.length ≤ cap ∧ cap ≤ maxLen ∧ off + cap ≤ cur.size ∧ ∀ j, j < zs.length → w.cell? ⟨g, off + j, none⟩ = some (.int .u8 (zs.getD j 0)))
theorem cell_block {w : World} {b : Nat} {cs : Array Value} {t : TypeId} {fr : Nat × Nat} (h : w.heap[b]? = some (.cells cs t fr)) (o : Nat) : w.cell? ⟨b, o, none⟩ = cs[o]? := by
  simp [World.cell?, h]
theorem Buf.nil (w : World) (base : Nat) : Buf w base (.slice none 0 0) [] := ⟨Octets.nil, .inl ⟨rfl, rfl⟩⟩
theorem Buf.form {w : World} {base : Nat} {v : Value} {zs : List Int} (h : Buf w base v zs) : ∃ ao cap, v = .slice ao zs.length cap ∧ (ao = none → cap = 0) ∧ Has w ao zs ∧ zs.length ≤ cap ∧ cap ≤ maxLen := by
  rcases h.2 with ⟨rfl, rfl⟩ | ⟨g, off, cap, cur, rfl, hb, hg, h1, h2, h3, h4⟩
  · exact ⟨none, 0, rfl, fun _ => rfl, .inl ⟨rfl, rfl⟩, by simp, by decide⟩
  · refine ⟨_, _, rfl, (fun h => by cases h), .inr ⟨_, rfl, fun j hj => ?_⟩, h1, h2⟩
    rw [Addr.add_lit]
    exact h4 j hj
theorem Buf.low {w : World} {base : Nat} {v : Value} {zs : List Int} (h : Buf w base v zs) {g : Nat} (hg : v.ownBlock = some g) : base ≤ g ∧ g < w.heap.size := by
  rcases h.2 with ⟨rfl, rfl⟩ | ⟨g', off, cap, cur, rfl, hb, hg', _⟩
  · cases hg
  · cases hg
    refine ⟨hb, ?_⟩
    rcases Nat.lt_or_ge g' w.heap.size with hlt | hge
    · exact hlt
    · rw [Array.getElem?_eq_none hge] at hg'; cases hg'
theorem Buf.typ {w : World} {base : Nat} {v : Value} {zs : List Int} (h : Buf w base v zs) {g : Nat} (hg : v.ownBlock = some g) : ∃ cur, w.heap[g]? = some (.cells cur 5 (0, 0)) := by
  rcases h.2 with ⟨rfl, rfl⟩ | ⟨g', off, cap, cur, rfl, hb, hg', _⟩
  · cases hg
  · cases hg
    exact ⟨cur, hg'⟩
theorem Buf.keep {w w' : World} {base : Nat} {v : Value} {zs : List Int} (h : Buf w base v zs) (hb : ∀ k, v.ownBlock = some k → w'.heap[k]? = w.heap[k]?) : Buf w' base v zs := by
  refine ⟨h.1, ?_⟩
  rcases h.2 with h0 | ⟨g, off, cap, cur, rfl, hbg, hg', h1, h2, h3, h4⟩
  · exact .inl h0
  · have e := hb g rfl
    exact .inr ⟨g, off, cap, cur, rfl, hbg, e.trans hg', h1, h2, h3, fun j hj => (World.cell?_of_block (w := w) (a := ⟨g, off + j, none⟩) e).trans (h4 j hj)⟩
theorem Buf.of_own {w : World} {base : Nat} {v : Value} {n : Nat} {zs : List Int} (ho : Octets zs) (h : w.ownsRow base 5 1 v n (vals zs)) : Buf w base v zs := by
  have hl : zs.length = n := by have := h.1; rw [vals_length] at this; omega
  refine ⟨ho, ?_⟩
  rcases h.2 with ⟨rfl, rfl⟩ | ⟨g, cap, cur, rfl, hb, hg, h1, h2, h3, h4⟩
  · exact .inl ⟨rfl, List.eq_nil_of_length_eq_zero hl⟩
  · subst hl
    refine .inr ⟨g, 0, cap, cur, rfl, hb, hg, h1, h2, by omega, fun j hj => ?_⟩
    have := h.cellAt j (by omega)
    rw [Nat.zero_add, this, vals_get _ j hj]
theorem setCells_block (b : Nat) : ∀ (vs : List Value) (o : Nat) (w : World) (cur : Array Value) (t : TypeId) (fr : Nat × Nat), w.heap[b]? = some (.cells cur t fr) →
    ∃ cur', (w.setCells b o vs).heap[b]? = some (.cells cur' t fr) ∧ cur'.size = cur.size
  | [], o, w, cur, t, fr, h => ⟨cur, h, rfl⟩
  | v :: r, o, w, cur, t, fr, h => by
    rw [World.setCells, setCell_eq_setRow w b o cur t fr v h]
    have h' : (w.setRow b (cur.setIfInBounds o v)).heap[b]? = some (.cells (cur.setIfInBounds o v) t fr) := by
      unfold World.setRow
      simp [Array.getElem?_modify, h]
    obtain ⟨cur', h1, h2⟩ := setCells_block b r (o + 1) _ _ t fr h'
    exact ⟨cur', h1, by simpa using h2⟩
theorem setCells_grown (b : Nat) : ∀ (vs : List Value) (o : Nat) (w : World), w.grownBy (w.setCells b o vs) (some b)
  | [], o, w => ⟨rfl, rfl, rfl, Nat.le_refl _, fun _ _ _ => rfl⟩
  | v :: r, o, w => by
    have h := setCells_grown b r (o + 1) (w.setCell ⟨b, o, none⟩ v)
    have hs : (w.setCell ⟨b, o, none⟩ v).heap.size = w.heap.size := by simp
    rw [World.setCells]
    exact ⟨h.os, h.tape, h.output, by rw [← hs]; exact h.size, fun k hk hne => (h.block k (by omega) hne).trans (Below.heap_setCell w _ v k (fun e => hne (by rw [e])))⟩
theorem run_append_buf {P : Program} (w : World) (t ty : TypeId) (base : Nat) (i : TypeInfo) (ht : P.underlying t = some (.slice 5)) (hi : P.info? 5 = some i) (hz : i.zero = some (.int .u8 0)) (hsize : i.size = 1) (hby : i.bytes = 1)
    (v : Value) (zs : List Int) (hB : Buf w base v zs) (ao : Option Addr) (m c : Nat) (ps : List Int) (hl : ps.length = m) (hbare : ao = none → c = 0) (hp : Has w ao ps) (ho : Octets ps)
    (hsmall : zs.length + m ≤ 140737488355328) (hbase : base ≤ w.heap.size) :
    ∃ v' w', (Builtin.append_ #[t, t] ty #[v, .slice ao m c]).run P w = .ok v' w' ∧ Buf w' base v' (zs ++ ps) ∧ w.grownBy w' v.ownBlock ∧ (v'.ownBlock = v.ownBlock ∨ ∀ g, v'.ownBlock = some g → w.heap.size ≤ g) := by
  have hmax : (140737488355328 : Nat) ≤ maxLen := by decide
  rcases hp with ⟨rfl, rfl⟩ | ⟨ad, rfl, hp⟩
  · obtain rfl := hbare rfl
    obtain rfl : m = 0 := hl.symm
    have e0 : zs ++ [] = zs := by simp
    refine ⟨v, w, ?_, by rw [e0]; exact hB, ⟨rfl, rfl, rfl, Nat.le_refl _, fun _ _ _ => rfl⟩, .inl rfl⟩
    rcases hB.2 with ⟨rfl, rfl⟩ | ⟨g, off, cap, cur, rfl, hbg, hg, h1, h2, h3, h4⟩
    · simp [Builtin.append_, run_underlying ht, sizeOf, typeInfo, hi, Builtin.lenOf, Builtin.firstCells]
    · simp [Builtin.append_, run_underlying ht, sizeOf, typeInfo, hi, Builtin.lenOf, Builtin.firstCells, h1, storeCells]
  · have hnews : ∀ j u, (vals ps)[j]? = some u → w.cell? (ad.add j) = some u := fun j u h => by
      obtain ⟨hj, rfl⟩ := vals_at ps j u h
      exact hp j hj
    rcases hB.2 with ⟨rfl, rfl⟩ | ⟨g, off, cap, cur, rfl, hbg, hg, h1, h2, h3, h4⟩
    · obtain ⟨v', w', hr, r2, r3, _, r5⟩ := run_append_own_at (P := P) w base t ty 5 i (.int .u8 0) 1 1 ht hi hz hsize hby rfl (by decide) (.slice none 0 0) 0 [] (World.ownsRow_nil w _ 5 1) ad m c (vals ps) (by rw [vals_length]; omega) hnews (vals_one _) (by simp at hsmall; omega) (by simp at hsmall; omega) hbase
      exact ⟨v', w', hr, Buf.of_own ho (by simpa using r2), r3, r5.imp id fun h g hg => by rw [h] at hg; cases hg; exact Nat.le_refl _⟩
    · by_cases hroom : zs.length + m ≤ cap
      · have hc : ∀ j, j < (vals ps).length → (w.cell? ⟨g, off + zs.length * i.size + j, none⟩).isSome = true := fun j hj => by
          rw [vals_length] at hj
          rw [cell_block hg, hsize]; simp; omega
        have hf : ∀ j, j < (vals ps).length → w.frozen? ⟨g, off + zs.length * i.size + j, none⟩ = false := fun j hj => by simp [World.frozen?, hg]
        have hrun := run_append_room_cells (P := P) w t ty 5 i ht hi g off zs.length cap ad m c (vals ps) (by rw [vals_length, hsize]; omega) hnews (vals_one _) hroom hc hf
        have hG := setCells_grown g (vals ps) (off + zs.length * i.size) w
        obtain ⟨cur', hg', hsz'⟩ := setCells_block g (vals ps) (off + zs.length * i.size) w cur 5 (0, 0) hg
        have hel : (zs ++ ps).length = zs.length + m := by simp [hl]
        refine ⟨_, _, hrun, ⟨hB.1.append ho, .inr ⟨g, off, cap, cur', by rw [hel], hbg, hg', by omega, h2, by omega, fun j hj => ?_⟩⟩, hG, .inl rfl⟩
        by_cases hj' : j < zs.length
        · rw [World.cell?_setCells_out g _ _ _ _ (fun _ _ => .inl (by rw [hsize]; simp; omega)), h4 j hj']
          simp [List.getD, List.getElem?_append_left hj']
        · have hj2 : j - zs.length < (vals ps).length := by rw [vals_length]; omega
          have := World.cell?_setCells_in g (vals ps) (off + zs.length * i.size) w hc (j - zs.length) hj2
          rw [show off + zs.length * i.size + (j - zs.length) = off + j by rw [hsize]; omega] at this
          rw [this]
          have := vals_get ps (j - zs.length) (by rw [vals_length] at hj2; exact hj2)
          rw [List.getElem?_eq_getElem hj2] at this
          rw [this]
          simp [List.getD, List.getElem?_append_right (Nat.le_of_not_lt hj')]
      · have holds : ∀ j u, (vals zs)[j]? = some u → w.cell? ((⟨g, off, none⟩ : Addr).add j) = some u := fun j u h => by
          obtain ⟨hj, rfl⟩ := vals_at zs j u h
          rw [Addr.add_lit]
          exact h4 j hj
        obtain ⟨v', w', hr, r2, r3⟩ := run_append_arg_grows (P := P) w t ty 5 i (.int .u8 0) 1 1 ht hi hz hsize hby rfl (by decide) ⟨g, off, none⟩ zs.length cap (vals zs) (by rw [vals_length]; omega) holds ad m c (vals ps) (by rw [vals_length]; omega) hnews (by omega) (by omega) (by omega)
        rw [← vals_append] at r2
        have hB' := Buf.of_own (hB.1.append ho) r2
        refine ⟨v', w', hr, ?_, ⟨r3.os, r3.tape, r3.output, r3.size, fun k hk _ => r3.block k hk (by simp)⟩, ?_⟩
        · refine ⟨hB'.1, ?_⟩
          rcases hB'.2 with h | ⟨g', off', cap', cur', h, hle, rest⟩
          · exact .inl h
          · exact .inr ⟨g', off', cap', cur', h, Nat.le_trans hbase hle, rest⟩
        · exact .inr fun k hk => (hB'.low hk).1
theorem wp_append_buf {P : Program} (w : World) {o : Oper} {a : Act} {K : Act → World → Prop} {Q : Exit → Act → World → Prop} (s x : Operand) (t : TypeId)
    (hop : o.op = .call { callee := .builtin .append, args := #[s, x], argTypes := #[t, t] })
    (base : Nat) (i : TypeInfo) (ht : P.underlying t = some (.slice 5)) (hi : P.info? 5 = some i) (hz : i.zero = some (.int .u8 0)) (hsize : i.size = 1) (hby : i.bytes = 1)
    (v : Value) (zs : List Int) (hs : a.eval s = v) (hB : Buf w base v zs) (ao : Option Addr) (m c : Nat) (ps : List Int) (hx : a.eval x = .slice ao m c) (hl : ps.length = m) (hbare : ao = none → c = 0) (hp : Has w ao ps) (ho : Octets ps)
    (hsmall : zs.length + m ≤ 140737488355328) (hbase : base ≤ w.heap.size)
    (h : ∀ v' w', Buf w' base v' (zs ++ ps) → w.grownBy w' v.ownBlock → (v'.ownBlock = v.ownBlock ∨ ∀ g, v'.ownBlock = some g → w.heap.size ≤ g) → K (a.put o.dst v') w') : o.wp P a w K Q := by
  obtain ⟨v', w', hr, h2, h3, h4⟩ := run_append_buf (P := P) w t o.type base i ht hi hz hsize hby v zs hB ao m c ps hl hbare hp ho hsmall hbase
  unfold Oper.wp execOp
  simp only [hop, resolve, invoke, builtin, Sem.run_bind, Sem.run_pure, Result.andThen_ok, List.map_toArray, List.map_cons, List.map_nil, hs, hx, hr]
  exact h v' w' h2 h3 h4
theorem wpList_append_buf {P : Program} (w : World) {ops : Array Oper} {rest : List Oper} {o : Oper} {a : Act} {Q : Exit → Act → World → Prop} (hgd : o.guard = none) (s x : Operand) (t : TypeId)
    (hop : o.op = .call { callee := .builtin .append, args := #[s, x], argTypes := #[t, t] })
    (base : Nat) (i : TypeInfo) (ht : P.underlying t = some (.slice 5)) (hi : P.info? 5 = some i) (hz : i.zero = some (.int .u8 0)) (hsize : i.size = 1) (hby : i.bytes = 1)
    (v : Value) (zs : List Int) (hs : a.eval s = v) (hB : Buf w base v zs) (ao : Option Addr) (m c : Nat) (ps : List Int) (hx : a.eval x = .slice ao m c) (hl : ps.length = m) (hbare : ao = none → c = 0) (hp : Has w ao ps) (ho : Octets ps)
    (hsmall : zs.length + m ≤ 140737488355328) (hbase : base ≤ w.heap.size)
    (h : ∀ v' w', Buf w' base v' (zs ++ ps) → w.grownBy w' v.ownBlock → (v'.ownBlock = v.ownBlock ∨ ∀ g, v'.ownBlock = some g → w.heap.size ≤ g) → wpList P ops Q rest (a.put o.dst v') w') : wpList P ops Q (o :: rest) a w :=
  wpList_plain hgd fun _ hK => wp_append_buf w s x t hop base i ht hi hz hsize hby v zs hs hB ao m c ps hx hl hbare hp ho hsmall hbase fun v' w' h2 h3 h4 => hK _ _ (h v' w' h2 h3 h4)
theorem step_append_buf {P : Program} (w : World) {ops : Array Oper} {o : Oper} {a : Act} {K : Act → World → Prop} {Q : Exit → Act → World → Prop} {E : Prop} (hgd : o.guard = none) (s x : Operand) (t : TypeId)
    (hop : o.op = .call { callee := .builtin .append, args := #[s, x], argTypes := #[t, t] })
    (base : Nat) (i : TypeInfo) (ht : P.underlying t = some (.slice 5)) (hi : P.info? 5 = some i) (hz : i.zero = some (.int .u8 0)) (hsize : i.size = 1) (hby : i.bytes = 1)
    (v : Value) (zs : List Int) (hs : a.eval s = v) (hB : Buf w base v zs) (ao : Option Addr) (m c : Nat) (ps : List Int) (hx : a.eval x = .slice ao m c) (hl : ps.length = m) (hbare : ao = none → c = 0) (hp : Has w ao ps) (ho : Octets ps)
    (hsmall : zs.length + m ≤ 140737488355328) (hbase : base ≤ w.heap.size)
    (h : ∀ v' w', Buf w' base v' (zs ++ ps) → w.grownBy w' v.ownBlock → (v'.ownBlock = v.ownBlock ∨ ∀ g, v'.ownBlock = some g → w.heap.size ≤ g) → K (a.put o.dst v') w') :
    if Region.wanted o (yielded ops a.tmps) = true then Oper.wp P o a w K Q else E := by
  have hw : Region.wanted o (yielded ops a.tmps) = true := by simp [Region.wanted, hgd]
  rw [if_pos hw]
  exact wp_append_buf w s x t hop base i ht hi hz hsize hby v zs hs hB ao m c ps hx hl hbare hp ho hsmall hbase h
end Go.Proofs.Ytmljljpldljpjab
