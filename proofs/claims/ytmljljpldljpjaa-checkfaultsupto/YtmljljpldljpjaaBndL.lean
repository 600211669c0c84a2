import Derived.Test.YtmljljpldljpjaaKBase
import Derived.Maps.AppendAt
import Derived.Test.YtmljljpldljpjaaKPa
import Derived.OwnWalk
import Derived.Laws.BytesString
import Derived.Lib.AppendStr
import Derived.Laws.Concat
/-
  Bytes of one's own, from anywhere in their block, and append onto them.
-/
namespace Go.Proofs.Ytmljljpldljpjaa.Kk
open Go.RowKit
set_option linter.unusedVariables false
set_option linter.unusedSimpArgs false
def Buf (w : World) (base : Nat) (v : Value) (zs : List Int) : Prop :=
  Octets zs ∧ ((v = .slice none 0 0 ∧ zs = []) ∨ ∃ g off cap cur, v = .slice (some ⟨g, off, none⟩) zs.length cap ∧ base ≤ g ∧ w.heap[g]? = some (.cells cur 5 (0, 0)) ∧ zs.length ≤ cap ∧ cap ≤ maxLen ∧ off + cap ≤ cur.size ∧ ∀ j, j < zs.length → w.cell? ⟨g, off + j, none⟩ = some (.int .u8 (zs.getD j 0)))
theorem cell_block {w : World} {b : Nat} {cs : Array Value} {t : TypeId} {fr : Nat × Nat} (h : w.heap[b]? = some (.cells cs t fr)) (o : Nat) : w.cell? ⟨b, o, none⟩ = cs[o]? := by
  simp [World.cell?, h]
theorem Buf.nil (w : World) (base : Nat) : Buf w base (.slice none 0 0) [] := ⟨Octets.nil, .inl ⟨rfl, rfl⟩⟩
theorem Buf.form {w : World} {base : Nat} {v : Value} {zs : List Int} (h : Buf w base v zs) : ∃ ao cap, v = .slice ao zs.length cap ∧ (ao = none → cap = 0) ∧ Has w ao zs ∧ zs.length ≤ cap ∧ cap ≤ maxLen := by
  rcases h.2 with ⟨rfl, rfl⟩ | ⟨g, off, cap, cur, rfl, hb, hg, h1, h2, h3, h4⟩
  · exact ⟨none, 0, rfl, fun _ => rfl, .inl ⟨rfl, rfl⟩, by simp, by decide⟩
  · refine ⟨_, _, rfl, (fun h => by cases h), .inr ⟨_, rfl, fun j hj => ?_⟩, h1, h2⟩
    rw [Addr.add_lit]
    exact h4 j hj
theorem Buf.low {w : World} {base : Nat} {v : Value} {zs : List Int} (h : Buf w base v zs) {g : Nat} (hg : v.ownBlock = some g) : base ≤ g ∧ g < w.heap.size := by
  rcases h.2 with ⟨rfl, rfl⟩ | ⟨g', off, cap, cur, rfl, hb, hg', _⟩
  · cases hg
  · cases hg
    refine ⟨hb, ?_⟩
    rcases Nat.lt_or_ge g' w.heap.size with hlt | hge
    · exact hlt
    · rw [Array.getElem?_eq_none hge] at hg'; cases hg'
theorem Buf.typ {w : World} {base : Nat} {v : Value} {zs : List Int} (h : Buf w base v zs) {g : Nat} (hg : v.ownBlock = some g) : ∃ cur, w.heap[g]? = some (.cells cur 5 (0, 0)) := by
  rcases h.2 with ⟨rfl, rfl⟩ | ⟨g', off, cap, cur, rfl, hb, hg', _⟩
  · cases hg
  · cases hg
    exact ⟨cur, hg'⟩
theorem Buf.keep {w w' : World} {base : Nat} {v : Value} {zs : List Int} (h : Buf w base v zs) (hb : ∀ k, v.ownBlock = some k → w'.heap[k]? = w.heap[k]?) : Buf w' base v zs := by
  refine ⟨h.1, ?_⟩
  rcases h.2 with h0 | ⟨g, off, cap, cur, rfl, hbg, hg', h1, h2, h3, h4⟩
  · exact .inl h0
  · have e := hb g rfl
    exact .inr ⟨g, off, cap, cur, rfl, hbg, e.trans hg', h1, h2, h3, fun j hj => (World.cell?_of_block (w := w) (a := ⟨g, off + j, none⟩) e).trans (h4 j hj)⟩
theorem Buf.of_own {w : World} {base : Nat} {v : Value} {n : Nat} {zs : List Int} (ho : Octets zs) (h : w.ownsRow base 5 1 v n (vals zs)) : Buf w base v zs := by
  have hl : zs.length = n := by have := h.1; rw [vals_length] at this; omega
  refine ⟨ho, ?_⟩
  rcases h.2 with ⟨rfl, rfl⟩ | ⟨g, cap, cur, rfl, hb, hg, h1, h2, h3, h4⟩
  · exact .inl ⟨rfl, List.eq_nil_of_length_eq_zero hl⟩
  · subst hl
    refine .inr ⟨g, 0, cap, cur, rfl, hb, hg, h1, h2, by omega, fun j hj => ?_⟩
    have := h.cellAt j (by omega)
    rw [Nat.zero_add, this, vals_get _ j hj]
theorem setCells_block (b : Nat) : ∀ (vs : List Value) (o : Nat) (w : World) (cur : Array Value) (t : TypeId) (fr : Nat × Nat), w.heap[b]? = some (.cells cur t fr) →
    ∃ cur', (w.setCells b o vs).heap[b]? = some (.cells cur' t fr) ∧ cur'.size = cur.size
  | [], o, w, cur, t, fr, h => ⟨cur, h, rfl⟩
  | v :: r, o, w, cur, t, fr, h => by
    rw [World.setCells, setCell_eq_setRow w b o cur t fr v h]
    have h' : (w.setRow b (cur.setIfInBounds o v)).heap[b]? = some (.cells (cur.setIfInBounds o v) t fr) := by
      unfold World.setRow
      simp [Array.getElem?_modify, h]
    obtain ⟨cur', h1, h2⟩ := setCells_block b r (o + 1) _ _ t fr h'
    exact ⟨cur', h1, by simpa using h2⟩
theorem setCells_grown (b : Nat) : ∀ (vs : List Value) (o : Nat) (w : World), w.grownBy (w.setCells b o vs) (some b)
  | [], o, w => ⟨rfl, rfl, rfl, Nat.le_refl _, fun _ _ _ => rfl⟩
  | v :: r, o, w => by
    have h := setCells_grown b r (o + 1) (w.setCell ⟨b, o, none⟩ v)
    have hs : (w.setCell ⟨b, o, none⟩ v).heap.size = w.heap.size := by simp
    rw [World.setCells]
    exact ⟨h.os, h.tape, h.output, by rw [← hs]; exact h.size, fun k hk hne => (h.block k (by omega) hne).trans (Below.heap_setCell w _ v k (fun e => hne (by rw [e])))⟩
theorem run_append_buf {P : Program} (w : World) (t ty : TypeId) (base : Nat) (i : TypeInfo) (ht : P.underlying t = some (.slice 5)) (hi : P.info? 5 = some i) (hz : i.zero = some (.int .u8 0)) (hsize : i.size = 1) (hby : i.bytes = 1)
    (v : Value) (zs : List Int) (hB : Buf w base v zs) (ao : Option Addr) (m c : Nat) (ps : List Int) (hl : ps.length = m) (hbare : ao = none → c = 0) (hp : Has w ao ps) (ho : Octets ps)
    (hsmall : zs.length + m ≤ 140737488355328) (hbase : base ≤ w.heap.size) :
    ∃ v' w', (Builtin.append_ #[t, t] ty #[v, .slice ao m c]).run P w = .ok v' w' ∧ Buf w' base v' (zs ++ ps) ∧ w.grownBy w' v.ownBlock ∧ (v'.ownBlock = v.ownBlock ∨ ∀ g, v'.ownBlock = some g → w.heap.size ≤ g) := by
  have hmax : (140737488355328 : Nat) ≤ maxLen := by decide
  rcases hp with ⟨rfl, rfl⟩ | ⟨ad, rfl, hp⟩
  · obtain rfl := hbare rfl
    obtain rfl : m = 0 := hl.symm
    have e0 : zs ++ [] = zs := by simp
    refine ⟨v, w, ?_, by rw [e0]; exact hB, ⟨rfl, rfl, rfl, Nat.le_refl _, fun _ _ _ => rfl⟩, .inl rfl⟩
    rcases hB.2 with ⟨rfl, rfl⟩ | ⟨g, off, cap, cur, rfl, hbg, hg, h1, h2, h3, h4⟩
    · simp [Builtin.append_, run_underlying ht, sizeOf, typeInfo, hi, Builtin.lenOf, Builtin.firstCells]
    · simp [Builtin.append_, run_underlying ht, sizeOf, typeInfo, hi, Builtin.lenOf, Builtin.firstCells, h1, storeCells]
  · have hnews : ∀ j u, (vals ps)[j]? = some u → w.cell? (ad.add j) = some u := fun j u h => by
      obtain ⟨hj, rfl⟩ := vals_at ps j u h
      exact hp j hj
    rcases hB.2 with ⟨rfl, rfl⟩ | ⟨g, off, cap, cur, rfl, hbg, hg, h1, h2, h3, h4⟩
    · obtain ⟨v', w', hr, r2, r3, _, r5⟩ := run_append_own_at (P := P) w base t ty 5 i (.int .u8 0) 1 1 ht hi hz hsize hby rfl (by decide) (.slice none 0 0) 0 [] (World.ownsRow_nil w _ 5 1) ad m c (vals ps) (by rw [vals_length]; omega) hnews (vals_one _) (by simp at hsmall; omega) (by simp at hsmall; omega) hbase
      exact ⟨v', w', hr, Buf.of_own ho (by simpa using r2), r3, r5.imp id fun h g hg => by rw [h] at hg; cases hg; exact Nat.le_refl _⟩
    · by_cases hroom : zs.length + m ≤ cap
      · have hc : ∀ j, j < (vals ps).length → (w.cell? ⟨g, off + zs.length * i.size + j, none⟩).isSome = true := fun j hj => by
          rw [vals_length] at hj
          rw [cell_block hg, hsize]; simp; omega
        have hf : ∀ j, j < (vals ps).length → w.frozen? ⟨g, off + zs.length * i.size + j, none⟩ = false := fun j hj => by simp [World.frozen?, hg]
        have hrun := run_append_room_cells (P := P) w t ty 5 i ht hi g off zs.length cap ad m c (vals ps) (by rw [vals_length, hsize]; omega) hnews (vals_one _) hroom hc hf
        have hG := setCells_grown g (vals ps) (off + zs.length * i.size) w
        obtain ⟨cur', hg', hsz'⟩ := setCells_block g (vals ps) (off + zs.length * i.size) w cur 5 (0, 0) hg
        have hel : (zs ++ ps).length = zs.length + m := by simp [hl]
        refine ⟨_, _, hrun, ⟨hB.1.append ho, .inr ⟨g, off, cap, cur', by rw [hel], hbg, hg', by omega, h2, by omega, fun j hj => ?_⟩⟩, hG, .inl rfl⟩
        by_cases hj' : j < zs.length
        · rw [World.cell?_setCells_out g _ _ _ _ (fun _ _ => .inl (by rw [hsize]; simp; omega)), h4 j hj']
          simp [List.getD, List.getElem?_append_left hj']
        · have hj2 : j - zs.length < (vals ps).length := by rw [vals_length]; omega
          have := World.cell?_setCells_in g (vals ps) (off + zs.length * i.size) w hc (j - zs.length) hj2
          rw [show off + zs.length * i.size + (j - zs.length) = off + j by rw [hsize]; omega] at this
          rw [this]
          have := vals_get ps (j - zs.length) (by rw [vals_length] at hj2; exact hj2)
          rw [List.getElem?_eq_getElem hj2] at this
          rw [this]
          simp [List.getD, List.getElem?_append_right (Nat.le_of_not_lt hj')]
      · have holds : ∀ j u, (vals zs)[j]? = some u → w.cell? ((⟨g, off, none⟩ : Addr).add j) = some u := fun j u h => by
          obtain ⟨hj, rfl⟩ := vals_at zs j u h
          rw [Addr.add_lit]
          exact h4 j hj
        obtain ⟨v', w', hr, r2, r3⟩ := run_append_arg_grows (P := P) w t ty 5 i (.int .u8 0) 1 1 ht hi hz hsize hby rfl (by decide) ⟨g, off, none⟩ zs.length cap (vals zs) (by rw [vals_length]; omega) holds ad m c (vals ps) (by rw [vals_length]; omega) hnews (by omega) (by omega) (by omega)
        rw [← vals_append] at r2
        have hB' := Buf.of_own (hB.1.append ho) r2
        refine ⟨v', w', hr, ?_, ⟨r3.os, r3.tape, r3.output, r3.size, fun k hk _ => r3.block k hk (by simp)⟩, ?_⟩
        · refine ⟨hB'.1, ?_⟩
          rcases hB'.2 with h | ⟨g', off', cap', cur', h, hle, rest⟩
          · exact .inl h
          · exact .inr ⟨g', off', cap', cur', h, Nat.le_trans hbase hle, rest⟩
        · exact .inr fun k hk => (hB'.low hk).1
theorem wp_append_buf {P : Program} (w : World) {o : Oper} {a : Act} {K : Act → World → Prop} {Q : Exit → Act → World → Prop} (s x : Operand) (t : TypeId)
    (hop : o.op = .call { callee := .builtin .append, args := #[s, x], argTypes := #[t, t] })
    (base : Nat) (i : TypeInfo) (ht : P.underlying t = some (.slice 5)) (hi : P.info? 5 = some i) (hz : i.zero = some (.int .u8 0)) (hsize : i.size = 1) (hby : i.bytes = 1)
    (v : Value) (zs : List Int) (hs : a.eval s = v) (hB : Buf w base v zs) (ao : Option Addr) (m c : Nat) (ps : List Int) (hx : a.eval x = .slice ao m c) (hl : ps.length = m) (hbare : ao = none → c = 0) (hp : Has w ao ps) (ho : Octets ps)
    (hsmall : zs.length + m ≤ 140737488355328) (hbase : base ≤ w.heap.size)
    (h : ∀ v' w', Buf w' base v' (zs ++ ps) → w.grownBy w' v.ownBlock → (v'.ownBlock = v.ownBlock ∨ ∀ g, v'.ownBlock = some g → w.heap.size ≤ g) → K (a.put o.dst v') w') : o.wp P a w K Q := by
  obtain ⟨v', w', hr, h2, h3, h4⟩ := run_append_buf (P := P) w t o.type base i ht hi hz hsize hby v zs hB ao m c ps hl hbare hp ho hsmall hbase
  unfold Oper.wp execOp
  simp only [hop, resolve, invoke, builtin, Sem.run_bind, Sem.run_pure, Result.andThen_ok, List.map_toArray, List.map_cons, List.map_nil, hs, hx, hr]
  exact h v' w' h2 h3 h4
theorem wpList_append_buf {P : Program} (w : World) {ops : Array Oper} {rest : List Oper} {o : Oper} {a : Act} {Q : Exit → Act → World → Prop} (hgd : o.guard = none) (s x : Operand) (t : TypeId)
    (hop : o.op = .call { callee := .builtin .append, args := #[s, x], argTypes := #[t, t] })
    (base : Nat) (i : TypeInfo) (ht : P.underlying t = some (.slice 5)) (hi : P.info? 5 = some i) (hz : i.zero = some (.int .u8 0)) (hsize : i.size = 1) (hby : i.bytes = 1)
    (v : Value) (zs : List Int) (hs : a.eval s = v) (hB : Buf w base v zs) (ao : Option Addr) (m c : Nat) (ps : List Int) (hx : a.eval x = .slice ao m c) (hl : ps.length = m) (hbare : ao = none → c = 0) (hp : Has w ao ps) (ho : Octets ps)
    (hsmall : zs.length + m ≤ 140737488355328) (hbase : base ≤ w.heap.size)
    (h : ∀ v' w', Buf w' base v' (zs ++ ps) → w.grownBy w' v.ownBlock → (v'.ownBlock = v.ownBlock ∨ ∀ g, v'.ownBlock = some g → w.heap.size ≤ g) → wpList P ops Q rest (a.put o.dst v') w') : wpList P ops Q (o :: rest) a w :=
  wpList_plain hgd fun _ hK => wp_append_buf w s x t hop base i ht hi hz hsize hby v zs hs hB ao m c ps hx hl hbare hp ho hsmall hbase fun v' w' h2 h3 h4 => hK _ _ (h v' w' h2 h3 h4)
theorem step_append_buf {P : Program} (w : World) {ops : Array Oper} {o : Oper} {a : Act} {K : Act → World → Prop} {Q : Exit → Act → World → Prop} {E : Prop} (hgd : o.guard = none) (s x : Operand) (t : TypeId)
    (hop : o.op = .call { callee := .builtin .append, args := #[s, x], argTypes := #[t, t] })
    (base : Nat) (i : TypeInfo) (ht : P.underlying t = some (.slice 5)) (hi : P.info? 5 = some i) (hz : i.zero = some (.int .u8 0)) (hsize : i.size = 1) (hby : i.bytes = 1)
    (v : Value) (zs : List Int) (hs : a.eval s = v) (hB : Buf w base v zs) (ao : Option Addr) (m c : Nat) (ps : List Int) (hx : a.eval x = .slice ao m c) (hl : ps.length = m) (hbare : ao = none → c = 0) (hp : Has w ao ps) (ho : Octets ps)
    (hsmall : zs.length + m ≤ 140737488355328) (hbase : base ≤ w.heap.size)
    (h : ∀ v' w', Buf w' base v' (zs ++ ps) → w.grownBy w' v.ownBlock → (v'.ownBlock = v.ownBlock ∨ ∀ g, v'.ownBlock = some g → w.heap.size ≤ g) → K (a.put o.dst v') w') :
    if Region.wanted o (yielded ops a.tmps) = true then Oper.wp P o a w K Q else E := by
  have hw : Region.wanted o (yielded ops a.tmps) = true := by simp [Region.wanted, hgd]
  rw [if_pos hw]
  exact wp_append_buf w s x t hop base i ht hi hz hsize hby v zs hs hB ao m c ps hx hl hbare hp ho hsmall hbase h
end Go.Proofs.Ytmljljpldljpjaa.Kk

/-
  But for some blocks all is as it was.
-/
namespace Go.Proofs.Ytmljljpldljpjaa.Kk
open Go.RowKit
set_option linter.unusedVariables false
set_option linter.unusedSimpArgs false
structure Turn (w w' : World) (own : List Nat) : Prop where
  os : w'.os = w.os
  tape : w'.tape = w.tape
  output : w'.output = w.output
  size : w.heap.size ≤ w'.heap.size
  block : ∀ k, k < w.heap.size → k ∉ own → w'.heap[k]? = w.heap[k]?
theorem Turn.refl (w : World) (own : List Nat) : Turn w w own := ⟨rfl, rfl, rfl, Nat.le_refl _, fun _ _ _ => rfl⟩
theorem Turn.trans {w w1 w2 : World} {own own2 : List Nat} (h : Turn w w1 own) (h2 : Turn w1 w2 own2) (hs : ∀ k ∈ own2, k ∈ own ∨ w.heap.size ≤ k) : Turn w w2 own :=
  ⟨h2.os.trans h.os, h2.tape.trans h.tape, h2.output.trans h.output, Nat.le_trans h.size h2.size, fun k hk hn =>
    (h2.block k (Nat.lt_of_lt_of_le hk h.size) (fun hm => (hs k hm).elim hn (fun h => by omega))).trans (h.block k hk hn)⟩
theorem Turn.grown {w w' : World} {row : Option Nat} (h : w.grownBy w' row) : Turn w w' row.toList :=
  ⟨h.os, h.tape, h.output, h.size, fun k hk hn => h.block k hk (fun e => hn (by rw [← e]; simp))⟩
theorem Turn.setCell (w : World) (k o : Nat) (v : Value) : Turn w (w.setCell ⟨k, o, none⟩ v) [k] :=
  ⟨rfl, rfl, rfl, by simp, fun j hj hn => Below.heap_setCell w _ v j (fun e => hn (by simpa using e))⟩
theorem Turn.alloc (w : World) (o : Obj) : Turn w (w.alloc o) [] := ⟨rfl, rfl, rfl, by simp, fun k hk _ => Below.heap_alloc w o k hk⟩
theorem Turn.drew (w : World) : Turn w w.drew [] := ⟨rfl, rfl, rfl, Nat.le_refl _, fun k hk _ => rfl⟩
theorem Turn.mono {w w' : World} {own own' : List Nat} (h : Turn w w' own) (hs : ∀ k ∈ own, k ∈ own' ∨ w.heap.size ≤ k) : Turn w w' own' :=
  ⟨h.os, h.tape, h.output, h.size, fun k hk hn => h.block k hk (fun hm => (hs k hm).elim hn (fun h => by omega))⟩
theorem Turn.below {w w' : World} {own : List Nat} {B : Nat} (h : Turn w w' own) (hB : B ≤ w.heap.size) (hl : ∀ k ∈ own, B ≤ k) : Below B w w' :=
  ⟨h.os, h.tape, h.output, h.size, fun k hk => h.block k (by omega) (fun hm => by have := hl k hm; omega)⟩
theorem lt_of_block {w : World} {k : Nat} {o : Obj} (h : w.heap[k]? = some o) : k < w.heap.size := by
  rcases Nat.lt_or_ge k w.heap.size with hlt | hge
  · exact hlt
  · rw [Array.getElem?_eq_none hge] at h; cases h
theorem block_setCell {w : World} {k : Nat} {cs : Array Value} {t : TypeId} {fr : Nat × Nat} (h : w.heap[k]? = some (.cells cs t fr)) (o : Nat) (v : Value) :
    (w.setCell ⟨k, o, none⟩ v).heap[k]? = some (.cells (cs.setIfInBounds o v) t fr) := by
  rw [setCell_eq_setRow w k o cs t fr v h]
  unfold World.setRow
  simp [Array.getElem?_modify, h]
end Go.Proofs.Ytmljljpldljpjaa.Kk

/-
  Hosts, paths, methods asked; a host folded.
-/
namespace Go.Proofs.Ytmljljpldljpjaa.Kk
open Go.RowKit
set_option linter.unusedVariables false
set_option linter.unusedSimpArgs false
set_option maxRecDepth 100000
def hostB (l : List UInt8) : Bool := decide (l.length ≤ 64) && madF hosF l
def pathB (l : List UInt8) : Bool := decide (l.length ≤ 256) && madF patF l && (l.head? == some 47)
def methB (l : List UInt8) : Bool := decide (l.length ≤ 64) && madF greF l
theorem isPath_any (l : List UInt8) (w : World) (hs : l.length ≤ 2 ^ 62) : Calls Try.prog 98 #[.string ⟨l.toArray⟩] w fun e w' => e = .returned (.bool (pathB l)) ∧ w' = w := by
  have hM := made_path l w hs
  by_cases hl : l.length ≤ 256
  · cases hm : madF patF l with
    | false =>
      have HE : Hid (pathB l = false) := by simp [Hid, pathB, hm]
      rw [hm] at hM
      clear hm
      go_enter Try.func98, Try.ntmps98
      go_wp2_with (go_at_call 102; refine hM.mono ?_; rintro e w' ⟨rfl, rfl⟩)
      go_ret
      exact ⟨ret_bool HE.out.symm, rfl⟩
    | true =>
      rw [hm] at hM
      rcases l with _ | ⟨c, l⟩
      · simp [madF] at hm
      have HE : Hid (pathB (c :: l) = ((c.toNat : Int) == 47)) := by
        have : (c == 47) = ((c.toNat : Int) == 47) := by rw [Bool.eq_iff_iff]; simp [← UInt8.toNat_inj]; omega
        simp only [List.length_cons] at hl
        simp [Hid, pathB, hm, hl]
        rw [← this]
      clear hm
      have hl1 : (l.length : Int) + 1 ≤ 256 := by simp only [List.length_cons] at hl; omega
      have hl2 : l.length ≤ 255 := by simp only [List.length_cons] at hl; omega
      go_enter Try.func98, Try.ntmps98
      go_wp2_with (go_at_call 102; refine hM.mono ?_; rintro e w' ⟨rfl, rfl⟩)
      go_ret
      exact ⟨ret_bool (by rw [HE.out]; rfl), rfl⟩
  · go_enter Try.func98, Try.ntmps98
    go_wp2_with (go_at_call 102; refine hM.mono ?_; rintro e w' ⟨rfl, rfl⟩)
    go_ret
    exact ⟨ret_bool (by simp [pathB, hl]), rfl⟩
def smlF (c : UInt8) : UInt8 := UInt8.ofNat (smlI (c.toNat : Int)).toNat
theorem smlI_bd (c : UInt8) : 0 ≤ smlI c.toNat ∧ smlI c.toNat ≤ 255 := by
  have := c.toNat_lt
  unfold smlI greF
  split
  · rename_i h; simp at h; omega
  · omega
theorem smlF_nat (c : UInt8) : ((smlF c).toNat : Int) = smlI c.toNat := by
  have := smlI_bd c
  unfold smlF
  rw [UInt8.toNat_ofNat']
  omega
def fldF (l : List UInt8) : List UInt8 := l.map smlF
def zL (l : List UInt8) : List Int := l.map fun c => (c.toNat : Int)
theorem zL_length (l : List UInt8) : (zL l).length = l.length := by simp [zL]
theorem zL_append (a b : List UInt8) : zL (a ++ b) = zL a ++ zL b := by simp [zL]
theorem fold_push : ∀ (l : List UInt8) (s : ByteArray), (zL l).foldl (fun r n => r.push (UInt8.ofNat n.toNat)) s = ⟨s.data ++ l.toArray⟩
  | [], s => by simp [zL]
  | c :: l, s => by
    have := fold_push l (s.push c)
    simp only [zL, List.map_cons, List.foldl_cons] at this ⊢
    have e : UInt8.ofNat (c.toNat : Int).toNat = c := by simp
    rw [e]
    rw [this]
    simp [ByteArray.push]
theorem Try.info5 : (Try.prog.info? 5).map (fun i => (i.zero, i.size, i.bytes)) = some (some (.int .u8 0), 1, 1) := by kernel_rfl
theorem info_parts {P : Program} {t : TypeId} {z : Option Value} {s b : Nat} (h : (P.info? t).map (fun i => (i.zero, i.size, i.bytes)) = some (z, s, b)) : ∃ i, P.info? t = some i ∧ i.zero = z ∧ i.size = s ∧ i.bytes = b := by
  rcases hi : P.info? t with _ | i
  · rw [hi] at h; cases h
  · rw [hi] at h; simp at h; exact ⟨i, rfl, h.1, h.2.1, h.2.2⟩
theorem vals_set (zs : List Int) (i : Nat) (z : Int) : vals (zs.set i z) = (vals zs).set i (.int .u8 z) := by simp [vals, List.map_set]
theorem str_has (w : World) (g n cap : Nat) (l : List UInt8) (hn : l.length = n) (hB : Has w (some ⟨g, 0, none⟩) (zL l)) : (convert 127 9 (.slice (some ⟨g, 0, none⟩) n cap)).run Try.prog w = .ok (.string ⟨l.toArray⟩) w := by
  subst hn
  rcases hB with ⟨h, _⟩ | ⟨x, hx, hc⟩
  · cases h
  cases hx
  rw [run_convert_bytes_string w 127 9 5 _ _ _ Try.underlying127 Try.underlying5 Try.underlying9]
  have hl := run_loadCells_list (P := Try.prog) w ⟨g, 0, none⟩ ((zL l).map (Value.int .u8)) (fun j v hj => by
    obtain ⟨hj', rfl⟩ := vals_at (zL l) j v hj
    exact hc j hj')
  simp only [List.length_map, zL_length] at hl
  have := run_bytesToString w ⟨g, 0, none⟩ l.length cap (zL l) hl
  rw [this, fold_push]
  congr
  simp
theorem made_bytes {w w1 : World} {n : Nat} (hown : w1.ownsRow w.heap.size 5 1 (.slice (some ⟨w.heap.size, 0, none⟩) n n) n (madeCells (Value.int .u8 0).cells (n * 1)).toList) : ∃ L : List Int, L.length = n ∧ w1.heap[w.heap.size]? = some (.cells (vals L).toArray 5 (0, 0)) := by
  rcases hown.2 with ⟨h, _⟩ | ⟨g', cap', cur, hv, _, hh, _, _, h2, h3⟩
  · cases h
  cases hv
  refine ⟨List.replicate n 0, by simp, ?_⟩
  rw [hh]
  have e : cur.toList = vals (List.replicate n 0) := by
    rw [List.take_of_length_le (by simp [h2])] at h3
    rw [h3]
    have e1 : (Value.int .u8 0).cells = #[.int .u8 0] := rfl
    rw [e1, toList_madeCells_one, Nat.mul_one]
    simp [vals]
  rw [← e]
theorem cell_vals {w : World} {B : Nat} {L : List Int} {t : TypeId} {fr : Nat × Nat} (hb : w.heap[B]? = some (.cells (vals L).toArray t fr)) (j : Nat) (hj : j < L.length) : w.cell? ⟨B, j, none⟩ = some (.int .u8 (L.getD j 0)) := by
  have h1 : (vals L).toArray.toList[j]? = some (.int .u8 (L.getD j 0)) := by simpa using vals_get L j hj
  have := World.news_of_block hb j _ h1
  rw [Go.WideShapes.add_plain, Nat.zero_add] at this
  exact this
end Go.Proofs.Ytmljljpldljpjaa.Kk
