import Derived.Test.YtmmnpnhffgpchaaGreatDoorBn23
import Derived.Deep.RegionHeld3
/-
  A tree laid out as a list; lists of nodes in memory of the call's own.
-/
namespace Go.Proofs.YtmmnpnhffgpchaaGreatDoor
open Go.RowKit
set_option linter.unusedVariables false
set_option linter.unusedSimpArgs false
/-- what a node says -/
structure Nd where
  kd : Int
  key : ByteArray
  tx : ByteArray
  quo : Bool
  ln : Int
  ks : List Int
def Nx.nd (o : Nx) : Nd := ⟨o.kd, o.key, o.tx, o.quo, o.ln, o.ks⟩
mutual
def Tr.size : Tr → Nat
  | .node _ _ _ _ _ kids => sizes kids + 1
def sizes : List Tr → Nat
  | [] => 0
  | t :: ts => t.size + sizes ts
end
def starts : List Tr → Nat → List Int
  | [], _ => []
  | t :: ts, q => (q : Int) :: starts ts (q + t.size)
mutual
/-- a tree's nodes, from a number on -/
def Tr.flat : Tr → Nat → List Nd
  | .node kd key tx quo ln kids, q => ⟨kd, key, tx, quo, ln, starts kids (q + 1)⟩ :: flats kids (q + 1)
def flats : List Tr → Nat → List Nd
  | [], _ => []
  | t :: ts, q => t.flat q ++ flats ts (q + t.size)
end
mutual
theorem flat_length : ∀ (t : Tr) (q : Nat), (t.flat q).length = t.size
  | .node kd key tx quo ln kids, q => by rw [Tr.flat, Tr.size, List.length_cons, flats_length kids (q + 1)]
theorem flats_length : ∀ (ts : List Tr) (q : Nat), (flats ts q).length = sizes ts
  | [], q => by rw [flats, sizes]; rfl
  | t :: ts, q => by rw [flats, sizes, List.length_append, flat_length t q, flats_length ts]
end
theorem sizes_snoc (ts : List Tr) (t : Tr) : sizes (ts ++ [t]) = sizes ts + t.size := by
  induction ts with
  | nil => simp [sizes]
  | cons x ts ih => simp only [List.cons_append, sizes, ih]; omega
theorem flats_snoc (ts : List Tr) (t : Tr) (q : Nat) : flats (ts ++ [t]) q = flats ts q ++ t.flat (q + sizes ts) := by
  induction ts generalizing q with
  | nil => simp [flats, sizes]
  | cons x ts ih => simp only [List.cons_append, flats, ih, sizes, List.append_assoc, Nat.add_assoc]
theorem starts_snoc (ts : List Tr) (t : Tr) (q : Nat) : starts (ts ++ [t]) q = starts ts q ++ [((q + sizes ts : Nat) : Int)] := by
  induction ts generalizing q with
  | nil => simp [starts, sizes]
  | cons x ts ih => simp only [List.cons_append, starts, ih, sizes, Nat.add_assoc]
theorem starts_length (ts : List Tr) (q : Nat) : (starts ts q).length = ts.length := by
  induction ts generalizing q with
  | nil => rfl
  | cons x ts ih => simp [starts, ih]
def rowsN (os : List Nx) : List Value := os.flatMap Nx.row
def iV (ks : List Int) : List Value := ks.map (Value.int .i64)
abbrev Nx.kv (o : Nx) : Value := .slice o.a o.n o.cap
theorem rowsN_length (os : List Nx) : (rowsN os).length = os.length * 6 := by
  induction os with
  | nil => rfl
  | cons o os ih => simp only [rowsN, List.flatMap_cons, List.length_append, List.length_cons] at *; rw [ih]; simp [Nx.row]; omega
theorem rowsN_append (a b : List Nx) : rowsN (a ++ b) = rowsN a ++ rowsN b := by simp [rowsN]
theorem rowsN_at : ∀ (os : List Nx) (i : Nat) (o : Nx), os[i]? = some o → ∀ (j : Nat) (u : Value), o.row[j]? = some u → (rowsN os)[i * 6 + j]? = some u
  | [], i, o, h, j, u, hu => by simp at h
  | x :: os, 0, o, h, j, u, hu => by
    simp at h; subst h
    have hj := (List.getElem?_eq_some_iff.1 hu).1
    rw [Nat.zero_mul, Nat.zero_add]
    simp only [rowsN, List.flatMap_cons]
    rw [List.getElem?_append_left hj]; exact hu
  | x :: os, i + 1, o, h, j, u, hu => by
    have := rowsN_at os i o (by simpa using h) j u hu
    simp only [rowsN, List.flatMap_cons] at *
    have hx : x.row.length = 6 := rfl
    rw [List.getElem?_append_right (by rw [hx]; omega), hx]
    rw [show (i + 1) * 6 + j - 6 = i * 6 + j by omega]
    exact this
theorem row_one (o : Nx) : ∀ u ∈ o.row, u.oneCell' = true := by
  intro u hu
  simp [Nx.row] at hu
  rcases hu with rfl | rfl | rfl | rfl | rfl | rfl <;> rfl
theorem iV_one (ks : List Int) : ∀ u ∈ iV ks, u.oneCell' = true := by
  intro u hu
  obtain ⟨z, _, rfl⟩ := List.mem_map.1 hu
  rfl
/-- a list of nodes in memory of the call's own, the kids of each too -/
structure Own (w : World) (base : Nat) (v : Value) (os : List Nx) : Prop where
  row : w.ownsRow base 68 6 v os.length (rowsN os)
  kids : ∀ o ∈ os, w.ownsRow base 3 1 o.kv o.n (iV o.ks) ∧ o.n ≤ 17592186043904
/-- what nodes_same asks of a list -/
structure Nsw (W : World) (a : Option Addr) (os : List Nx) : Prop where
  each : ∀ o ∈ os, o.ks.length = o.n ∧ Nums W o.a o.ks ∧ o.n ≤ 17592186043904
  row : os = [] ∨ ∃ g off, a = some ⟨g, off, none⟩ ∧ ∀ (i : Nat) (o : Nx), os[i]? = some o → ∀ (j : Nat) (u : Value), o.row[j]? = some u → W.cell? ⟨g, off + i * 6 + j, none⟩ = some u
theorem Ns.nsw {W : World} {a : Option Addr} {os : List Nx} (h : Ns W a os) : Nsw W a os := ⟨fun o ho => ⟨(h.each o ho).len, (h.each o ho).nums, (h.each o ho).big⟩, h.row⟩
theorem own_len {w : World} {base n : Nat} {v : Value} {ks : List Int} (h : w.ownsRow base 3 1 v n (iV ks)) : ks.length = n := by have := h.1; simp [iV] at this; exact this
theorem own_nums {w : World} {base n cp : Nat} {a : Option Addr} {ks : List Int} (h : w.ownsRow base 3 1 (.slice a n cp) n (iV ks)) : Nums w a ks := by
  have hl := own_len h
  rcases h.2 with ⟨h1, h2⟩ | ⟨g, cp', cur, h1, _⟩
  · injection h1 with h1
    exact .inl ⟨h1, List.length_eq_zero_iff.1 (by omega)⟩
  · injection h1 with h1 _ h3
    subst h1
    refine .inr ⟨_, rfl, fun j hj => h.cells rfl j _ ?_⟩
    simp [iV, hj]
theorem Own.nsw {w : World} {base n cp : Nat} {a : Option Addr} {os : List Nx} (h : Own w base (.slice a n cp) os) : Nsw w a os := by
  refine ⟨fun o ho => ⟨own_len (h.kids o ho).1, own_nums (h.kids o ho).1, (h.kids o ho).2⟩, ?_⟩
  have hr := h.row
  rcases hr.2 with ⟨h1, h2⟩ | ⟨g, cp', cur, h1, _⟩
  · exact .inl (List.length_eq_zero_iff.1 h2)
  · injection h1 with h1 h2 h3
    subst h1 h2 h3
    refine .inr ⟨g, 0, rfl, fun i o hi j u hu => ?_⟩
    have hi' := (List.getElem?_eq_some_iff.1 hi).1
    have hj := (List.getElem?_eq_some_iff.1 hu).1
    have hj6 : j < 6 := hj
    rw [Nat.zero_add, hr.cellAt (i * 6 + j) (by omega)]
    exact rowsN_at os i o hi j u hu
theorem Own.keep {w w' : World} {base : Nat} {v : Value} {os : List Nx} (h : Own w base v os) (hr : ∀ k, v.ownBlock = some k → w'.heap[k]? = w.heap[k]?) (hk : ∀ o ∈ os, ∀ k, o.kv.ownBlock = some k → w'.heap[k]? = w.heap[k]?) : Own w' base v os :=
  ⟨own_blk' h.row hr, fun o ho => ⟨own_block (h.kids o ho).1 (hk o ho), (h.kids o ho).2⟩⟩
theorem Own.below {w w' : World} {base : Nat} {v : Value} {os : List Nx} (h : Own w base v os) (hb : Below w.heap.size w w') : Own w' base v os :=
  h.keep (fun k hk => hb.block k (h.row.lt k hk).2) (fun o ho k hk => hb.block k ((h.kids o ho).1.lt k hk).2)
theorem Own.nil (w : World) (base : Nat) : Own w base (.slice none 0 0) [] := ⟨⟨by simp [rowsN], .inl ⟨rfl, rfl⟩⟩, fun o h => by cases h⟩
/-- the row's block is none of the kids' -/
theorem Own.ne {w : World} {base : Nat} {v : Value} {os : List Nx} (h : Own w base v os) {o : Nx} (ho : o ∈ os) {k : Nat} (hk : o.kv.ownBlock = some k) : v.ownBlock ≠ some k := by
  obtain ⟨cur, hc⟩ := own_cells (h.kids o ho).1 k hk
  intro e
  obtain ⟨cur2, hc2⟩ := own_cells h.row k e
  rw [hc] at hc2
  cases hc2
theorem own_ne {w : World} {b1 b2 n1 n2 : Nat} {v1 v2 : Value} {x1 x2 : List Value} (h1 : w.ownsRow b1 3 1 v1 n1 x1) (h2 : w.ownsRow b2 68 6 v2 n2 x2) {k : Nat} (hk : v1.ownBlock = some k) : v2.ownBlock ≠ some k := by
  obtain ⟨cur, hc⟩ := own_cells h1 k hk
  intro e
  obtain ⟨cur2, hc2⟩ := own_cells h2 k e
  rw [hc] at hc2
  cases hc2
end Go.Proofs.YtmmnpnhffgpchaaGreatDoor

/-
  The document's Laid: a tree's nodes behind others.
-/
namespace Go.Proofs.YtmmnpnhffgpchaaGreatDoor
open Go.RowKit
set_option linter.unusedVariables false
set_option linter.unusedSimpArgs false
set_option maxRecDepth 100000
theorem step_append_at {P : Program} {ops : Array Oper} {o : Oper} {a : Act} {w : World} {K : Act → World → Prop} {Q : Exit → Act → World → Prop} {E : Prop}
    (hg : o.guard = none) (s x : Operand) (t : TypeId) (hop : o.op = Op.call { callee := Callee.builtin Builtin.append, args := #[s, x], argTypes := #[t, t] })
    (base : Nat) (e : TypeId) (i : TypeInfo) (z : Value) (size bytes : Nat) (h1 : P.underlying t = some (.slice e)) (h2 : P.info? e = some i) (h3 : i.zero = some z) (h4 : i.size = size) (h5 : i.bytes = bytes) (h6 : z.cells.size = size) (h7 : 0 < size)
    (v : Value) (n : Nat) (xs : List Value) (hs : a.eval s = v) (hown : w.ownsRow base e size v n xs)
    (ad : Addr) (m c : Nat) (news : List Value) (hx : a.eval x = .slice (some ad) m c) (hn : news.length = m * size) (hc : ∀ j u, news[j]? = some u → w.cell? (ad.add j) = some u) (h1c : ∀ u ∈ news, u.oneCell' = true)
    (b1 : n + m ≤ maxLen) (b2 : (n + m) * bytes ≤ 140737488355328) (hb : base ≤ w.heap.size)
    (hK : ∀ v' w', w'.ownsRow base e size v' (n + m) (xs ++ news) → w.grownBy w' v.ownBlock → (v'.ownBlock = v.ownBlock ∨ v'.ownBlock = some w.heap.size) → K (a.put o.dst v') w') :
    if Region.wanted o (yielded ops a.tmps) = true then Oper.wp P o a w K Q else E := by
  have hw : Region.wanted o (yielded ops a.tmps) = true := by simp [Region.wanted, hg]
  rw [if_pos hw]
  obtain ⟨v', w', hrun, r1, r2, _, r4⟩ := run_append_own_at (P := P) w base t o.type e i z size bytes h1 h2 h3 h4 h5 h6 h7 v n xs hown ad m c news hn hc h1c b1 b2 hb
  unfold Oper.wp
  simp [execOp, hop, resolve, invoke, builtin, hs, hx, hrun, Result.andThen]
  exact hK v' w' r1 r2 r4
theorem Tryz.info68 : (Tryz.prog.info? 68).map (fun i => (i.zero, i.size, i.bytes)) = some (some (.agg #[.int .i64 0, .string ⟨#[]⟩, .string ⟨#[]⟩, .bool false, .int .i64 0, .slice none 0 0]), 6, 80) := by kernel_rfl
theorem Tryz.info3 : (Tryz.prog.info? 3).map (fun i => (i.zero, i.size, i.bytes)) = some (some (.int .i64 0), 1, 8) := by kernel_rfl
/-- what a call may touch: its row, and what is new -/
structure Tch (w w' : World) (v : Value) : Prop where
  os : w'.os = w.os
  tape : w'.tape = w.tape
  output : w'.output = w.output
  size : w.heap.size ≤ w'.heap.size
  block : ∀ k, k < w.heap.size → v.ownBlock ≠ some k → w'.heap[k]? = w.heap[k]?
/-- nodes laid behind others -/
structure LdE (w : World) (base : Nat) (v : Value) (os : List Nx) (fl : List Nd) (w' : World) (v' : Value) (ns : List Nx) : Prop where
  own : Own w' base v' (os ++ ns)
  nds : ns.map Nx.nd = fl
  tch : Tch w w' v
  row : v'.ownBlock = v.ownBlock ∨ ∀ r, v'.ownBlock = some r → w.heap.size ≤ r
  new : ∀ o ∈ ns, ∀ r, o.kv.ownBlock = some r → w.heap.size ≤ r
theorem size_pos (t : Tr) : 0 < t.size := by cases t; simp [Tr.size]
theorem take_snoc {ts : List Tr} {i : Nat} {t : Tr} (h : ts[i]? = some t) : ts.take (i + 1) = ts.take i ++ [t] := by rw [List.take_add_one, h, Option.toList_some]
theorem sizes_take_succ {ts : List Tr} {i : Nat} {t : Tr} (h : ts[i]? = some t) : sizes (ts.take (i + 1)) = sizes (ts.take i) + t.size := by rw [take_snoc h, sizes_snoc]
theorem sizes_take_le (ts : List Tr) (i : Nat) : sizes (ts.take i) ≤ sizes ts := by
  induction ts generalizing i with
  | nil => simp
  | cons x ts ih =>
    cases i with
    | zero => simp [sizes]
    | succ i => have := ih i; simp [sizes]; omega
theorem len_sizes (ts : List Tr) : ts.length ≤ sizes ts := by
  induction ts with
  | nil => simp
  | cons x ts ih => have := size_pos x; simp [sizes]; omega
/-- a node whose kids are not yet known -/
def bareN (kd : Int) (key tx : ByteArray) (quo : Bool) (ln : Int) : Nx := ⟨kd, key, tx, quo, ln, none, 0, 0, []⟩
theorem Own.snoc {w w' : World} {base : Nat} {v v' : Value} {os : List Nx} {o : Nx} (h : Own w base v os) (hr : w'.ownsRow base 68 6 v' (os.length + 1) (rowsN os ++ o.row)) (hk : ∀ x ∈ os, ∀ k, x.kv.ownBlock = some k → w'.heap[k]? = w.heap[k]?) (ho : w'.ownsRow base 3 1 o.kv o.n (iV o.ks)) (hn : o.n ≤ 17592186043904) : Own w' base v' (os ++ [o]) := by
  refine ⟨by simpa [rowsN] using hr, fun x hx => ?_⟩
  rcases List.mem_append.1 hx with hx | hx
  · exact ⟨own_block (h.kids x hx).1 (hk x hx), (h.kids x hx).2⟩
  · simp at hx; subst hx; exact ⟨ho, hn⟩
/-- Laid under way: so many kids are laid -/
structure Lw (w wr : World) (base : Nat) (v0 : Value) (os : List Nx) (me : Nx) (ts : List Tr) (kv v : Value) (ns : List Nx) : Prop where
  own : Own wr base v (os ++ me :: ns)
  nds : ns.map Nx.nd = flats ts (os.length + 1)
  kids : wr.ownsRow base 3 1 kv ts.length (iV (starts ts (os.length + 1)))
  far : ∀ r, kv.ownBlock = some r → w.heap.size ≤ r
  tch : Tch w wr v0
  row : v.ownBlock = v0.ownBlock ∨ ∀ r, v.ownBlock = some r → w.heap.size ≤ r
  new : ∀ o ∈ ns, ∀ r, o.kv.ownBlock = some r → w.heap.size ≤ r ∧ kv.ownBlock ≠ some r
theorem Tch.trans {w w1 w2 : World} {v v1 : Value} (h : Tch w w1 v) (h2 : Tch w1 w2 v1) (hv : v1.ownBlock = v.ownBlock ∨ ∀ r, v1.ownBlock = some r → w.heap.size ≤ r) : Tch w w2 v := by
  refine ⟨h2.os.trans h.os, h2.tape.trans h.tape, h2.output.trans h.output, Nat.le_trans h.size h2.size, fun k hk hne => ?_⟩
  refine (h2.block k (Nat.lt_of_lt_of_le hk h.size) (fun e => ?_)).trans (h.block k hk hne)
  rcases hv with e2 | e2
  · exact hne (e2 ▸ e)
  · have := e2 k e; omega
theorem Tch.of_grown {w w' : World} {v : Value} {o : Obj} {mm : Nat} (h : ((w.alloc o).drewN mm).grownBy w' v.ownBlock) : Tch w w' v :=
  ⟨h.os, h.tape, h.output, Nat.le_trans (by simp) h.size, fun k hk hne => (h.block k (by simp; omega) (fun e => hne e.symm)).trans (Below.heap_alloc w o k hk)⟩
theorem Lw.lens {w wr : World} {base : Nat} {v0 : Value} {os : List Nx} {me : Nx} {ts : List Tr} {kv v : Value} {ns : List Nx} (h : Lw w wr base v0 os me ts kv v ns) : (os ++ me :: ns).length = os.length + 1 + sizes ts := by
  have := congrArg List.length h.nds
  rw [List.length_map, flats_length] at this
  simp [this]; omega
/-- it begins -/
theorem Lw.start {w w2 : World} {base : Nat} {v0 v : Value} {os : List Nx} {me : Nx} {o : Obj} {mm : Nat} (hm : me.kv = .slice none 0 0 ∧ me.n = 0 ∧ me.ks = []) (h : Own w base v0 os) (hr : w2.ownsRow base 68 6 v (os.length + 1) (rowsN os ++ me.row)) (hg : ((w.alloc o).drewN mm).grownBy w2 v0.ownBlock) (hat : v.ownBlock = v0.ownBlock ∨ v.ownBlock = some ((w.alloc o).drewN mm).heap.size) : Lw w w2 base v0 os me [] (.slice none 0 0) v [] := by
  have ht := Tch.of_grown hg
  refine ⟨Own.snoc h hr (fun x hx k hk => ht.block k ((h.kids x hx).1.lt k hk).2 (h.ne hx hk)) ?_ (by rw [hm.2.1]; omega), by simp [flats], ⟨by simp [iV, starts], .inl ⟨rfl, rfl⟩⟩, (fun r h => by cases h), ht, ?_, fun o ho => by cases ho⟩
  · rw [hm.1, hm.2.1, hm.2.2]
    exact ⟨by simp [iV], .inl ⟨rfl, rfl⟩⟩
  · rcases hat with e | e
    · exact .inl e
    · refine .inr fun r hr => ?_
      rw [e] at hr; cases hr
      show w.heap.size ≤ (w.alloc o).heap.size
      simp
/-- a kid's number appended -/
theorem Lw.numbered {w wr w3 : World} {base : Nat} {v0 : Value} {os : List Nx} {me : Nx} {ts : List Tr} {kv kv' v : Value} {ns : List Nx} {o : Obj} (h : Lw w wr base v0 os me ts kv v ns) (hme : me.kv = .slice none 0 0) (hO : Own w base v0 os)
    (hg : (wr.alloc o).grownBy w3 kv.ownBlock) : Own w3 base v (os ++ me :: ns) ∧ Tch w w3 v0 := by
  have hb : ∀ k, k < wr.heap.size → kv.ownBlock ≠ some k → w3.heap[k]? = wr.heap[k]? := fun k hk hne => (hg.block k (by simp; omega) (fun e => hne e.symm)).trans (Below.heap_alloc wr o k hk)
  refine ⟨h.own.keep (fun k hk => hb k (h.own.row.lt k hk).2 (fun e => own_ne h.kids h.own.row e hk)) (fun x hx k hk => hb k ((h.own.kids x hx).1.lt k hk).2 (fun e => ?_)), ?_⟩
  · rcases List.mem_append.1 hx with hx | hx
    · have h1 := h.far k e
      have h2 := ((hO.kids x hx).1.lt k hk).2
      omega
    · rcases List.mem_cons.1 hx with rfl | hx
      · rw [hme] at hk; cases hk
      · exact (h.new x hx k hk).2 e
  · refine ⟨hg.os.trans h.tch.os, hg.tape.trans h.tch.tape, hg.output.trans h.tch.output, Nat.le_trans h.tch.size (Nat.le_trans (by simp) hg.size), fun k hk hne => ?_⟩
    exact (hb k (Nat.lt_of_lt_of_le hk h.tch.size) (fun e => by have := h.far k e; omega)).trans (h.tch.block k hk hne)
/-- a kid laid -/
theorem Lw.more {w wr w3 w4 : World} {base : Nat} {v0 : Value} {os : List Nx} {me : Nx} {ts : List Tr} {t : Tr} {kv kv' v v' : Value} {ns ns2 : List Nx} {o : Obj} (h : Lw w wr base v0 os me ts kv v ns) (hme : me.kv = .slice none 0 0) (hO : Own w base v0 os)
    (hown : w3.ownsRow base 3 1 kv' (ts.length + 1) (iV (starts ts (os.length + 1)) ++ [.int .i64 ((os.length + 1 + sizes ts : Nat) : Int)])) (hg : (wr.alloc o).grownBy w3 kv.ownBlock) (hat : kv'.ownBlock = kv.ownBlock ∨ kv'.ownBlock = some (wr.alloc o).heap.size)
    (hE : LdE w3 base v (os ++ me :: ns) (t.flat (os.length + 1 + sizes ts)) w4 v' ns2) : Lw w w4 base v0 os me (ts ++ [t]) kv' v' (ns ++ ns2) := by
  obtain ⟨h3, ht3⟩ := Lw.numbered (kv' := kv') h hme hO hg
  have hsz3 : wr.heap.size ≤ w3.heap.size := Nat.le_trans (by simp) hg.size
  have hrow : v.ownBlock = v0.ownBlock ∨ ∀ r, v.ownBlock = some r → w.heap.size ≤ r := h.row
  have hk' : ∀ r, kv'.ownBlock = some r → r < w3.heap.size ∧ w.heap.size ≤ r := fun r hr => ⟨(hown.lt r hr).2, by
    rcases hat with e | e
    · exact h.far r (e ▸ hr)
    · rw [e] at hr; cases hr
      have := h.tch.size
      simp; omega⟩
  refine ⟨by simpa using hE.own, ?_, ?_, fun r hr => (hk' r hr).2, ht3.trans hE.tch hrow, ?_, fun x hx r hr => ?_⟩
  · rw [List.map_append, h.nds, hE.nds, flats_snoc]
  · have h1 : w3.ownsRow base 3 1 kv' (ts ++ [t]).length (iV (starts (ts ++ [t]) (os.length + 1))) := by
      rw [starts_snoc]
      simpa [iV] using hown
    exact own_block h1 (fun k hk => hE.tch.block k (hk' k hk).1 (own_ne hown h3.row hk))
  · rcases hE.row with e | e
    · rw [e]; exact hrow
    · exact .inr fun r hr => by have := e r hr; have := ht3.size; omega
  · rcases List.mem_append.1 hx with hx | hx
    · refine ⟨(h.new x hx r hr).1, fun e => ?_⟩
      rcases hat with e2 | e2
      · exact (h.new x hx r hr).2 (e2 ▸ e)
      · rw [e2] at e; cases e
        have hx' : x ∈ os ++ me :: ns := by simp [hx]
        have := ((h.own.kids x hx').1.lt _ hr).2
        simp at this
        omega
    · have h1 := hE.new x hx r hr
      exact ⟨by have := ht3.size; omega, fun e => by have := (hk' r e).1; omega⟩
/-- its kids stored: done -/
theorem Lw.done {w wr : World} {base : Nat} {v0 : Value} {os : List Nx} {ts : List Tr} {kd : Int} {key tx : ByteArray} {quo : Bool} {ln : Int} {ka : Option Addr} {kc g m cp : Nat} {ns : List Nx} (h : Lw w wr base v0 os (bareN kd key tx quo ln) ts (.slice ka ts.length kc) (.slice (some ⟨g, 0, none⟩) m cp) ns) (hm : m = os.length + 1 + sizes ts) (hts : ts.length ≤ 17592186043904) :
    LdE w base v0 os (Tr.flat (.node kd key tx quo ln ts) os.length) (wr.setCell ⟨g, os.length * 6 + 5, none⟩ (.slice ka ts.length kc)) (.slice (some ⟨g, 0, none⟩) m cp) (⟨kd, key, tx, quo, ln, ka, ts.length, kc, starts ts (os.length + 1)⟩ :: ns) := by
  have hl := h.lens
  have ho : ∀ k, k ≠ g → (wr.setCell ⟨g, os.length * 6 + 5, none⟩ (.slice ka ts.length kc)).heap[k]? = wr.heap[k]? := fun k hk => Below.heap_setCell _ _ _ _ hk
  have hr := h.own.row
  rw [hl, ← hm] at hr
  refine ⟨⟨?_, fun x hx => ?_⟩, ?_, ?_, h.row, fun x hx r hr2 => ?_⟩
  · have h1 := (hr.stored (os.length * 6 + 5) (.slice ka ts.length kc)).1
    have e2 : (rowsN (os ++ bareN kd key tx quo ln :: ns)).set (os.length * 6 + 5) (.slice ka ts.length kc) = rowsN (os ++ ⟨kd, key, tx, quo, ln, ka, ts.length, kc, starts ts (os.length + 1)⟩ :: ns) := by
      rw [rowsN_append, rowsN_append, List.set_append_right _ _ (by rw [rowsN_length]; omega), rowsN_length]
      rw [show os.length * 6 + 5 - os.length * 6 = 5 by omega]
      rfl
    rw [e2] at h1
    have e3 : (os ++ (⟨kd, key, tx, quo, ln, ka, ts.length, kc, starts ts (os.length + 1)⟩ : Nx) :: ns).length = m := by rw [hm, ← hl]; simp
    rw [e3]
    exact h1
  · have hne : ∀ k, k = g → ∀ (v1 : Value) n1 x1, wr.ownsRow base 3 1 v1 n1 x1 → v1.ownBlock ≠ some k := fun k hk v1 n1 x1 hv e => by
      subst hk
      exact own_ne hv hr e rfl
    rcases List.mem_append.1 hx with hx | hx
    · have hx' := h.own.kids x (List.mem_append.2 (.inl hx))
      exact ⟨own_block hx'.1 (fun k hk => ho k (fun e => hne k e _ _ _ hx'.1 hk)), hx'.2⟩
    · rcases List.mem_cons.1 hx with rfl | hx
      · exact ⟨own_block h.kids (fun k hk => ho k (fun e => hne k e _ _ _ h.kids hk)), hts⟩
      · have hx' := h.own.kids x (List.mem_append.2 (.inr (List.mem_cons_of_mem _ hx)))
        exact ⟨own_block hx'.1 (fun k hk => ho k (fun e => hne k e _ _ _ hx'.1 hk)), hx'.2⟩
  · rw [Tr.flat, List.map_cons, h.nds]; rfl
  · refine h.tch.trans (v1 := .slice (some ⟨g, 0, none⟩) m cp) ⟨rfl, rfl, rfl, by simp [World.setCell], fun k hk hne => ho k (fun e => hne (by rw [e]; rfl))⟩ h.row
  · rcases List.mem_cons.1 hx with rfl | hx
    · exact h.far r hr2
    · exact (h.new x hx r hr2).1
set_option maxHeartbeats 8000000 in
theorem laid_any (base : Nat) (F : Nat → Prop) (hF : ∀ k, F k → k < base) : ∀ (h : Nat) (t : Tr) (p : Nat) (w : World) (v : Value) (os : List Nx), t.high ≤ h → os.length + t.size ≤ 4096 → base ≤ w.heap.size → TrIn w F t p → Own w base v os →
    Calls Tryz.prog 23 #[.pointer (some ⟨p, 0, none⟩), v] w fun e w' => ∃ v' ns, e = .returned v' ∧ LdE w base v os (t.flat os.length) w' v' ns := by
  intro h
  induction h with
  | zero => intro t p _ _ _ h0 _ _ _ _; have := high_pos t; omega
  | succ h ih =>
    intro t p w v os hh hsz hbase hT hO
    obtain ⟨kd, key, tx, quo, ln, kids⟩ := t
    have hT' := hT
    rw [TrIn] at hT
    obtain ⟨hFp, hks, kv, ps, hb, hFr, hown, hkids0⟩ := hT
    have hkids : TrsIn w F kids ps := TrsIn.turn (fun k hk => hk.1) (fun k hk => rfl) kids ps hkids0
    clear hkids0
    have hhi : highs kids ≤ h := by simp [Tr.high] at hh; omega
    have hsz' : os.length + (sizes kids + 1) ≤ 4096 := by simpa [Tr.size] using hsz
    obtain ⟨ao, cp, rfl, _, hlc, hcm⟩ := own_form hown
    obtain ⟨va, vc, rfl, _, hvc, hvm⟩ := own_form hO.row
    obtain ⟨K, hK⟩ : ∃ K, kids.length = K := ⟨_, rfl⟩
    obtain ⟨L, hL⟩ : ∃ L, os.length = L := ⟨_, rfl⟩
    rw [hK] at hown hlc hb
    rw [hL] at hvc hsz' ⊢
    have z0 : w.cell? ⟨p, 0, none⟩ = some (.int .i64 kd) := by rw [cell_block hb]; rfl
    have z1 : w.cell? ⟨p, 1, none⟩ = some (.string key) := by rw [cell_block hb]; rfl
    have z2 : w.cell? ⟨p, 2, none⟩ = some (.string tx) := by rw [cell_block hb]; rfl
    have z3 : w.cell? ⟨p, 3, none⟩ = some (.bool quo) := by rw [cell_block hb]; rfl
    have z4 : w.cell? ⟨p, 4, none⟩ = some (.int .i64 ln) := by rw [cell_block hb]; rfl
    obtain ⟨i51, hi51, hx0, hx1, hx2⟩ := info_parts Tryz.info68
    obtain ⟨i3, hi3, hy0, hy1, hy2⟩ := info_parts Tryz.info3
    have HO0 := hideL hO
    have HKID := hideL hkids
    have HKO := hideL hown
    have HBP := hideL hb
    have HI := hideL ih
    have HKL := hideL hK
    have HLL := hideL hL
    have HSZ := hideL hsz'
    have HF := hideL hF
    have hpb : p < base := hF p hFp
    have HOD : Hid ((w.alloc (Obj.cells #[.int .i64 kd, .string key, .string tx, .bool quo, .int .i64 ln, .slice none 0 0] 68)).drew.ownsRow base 68 6 (.slice va L vc) L (rowsN os)) := by
      have h1 := hO.row
      rw [hL] at h1
      exact h1.alloc _
    have HND : Hid (∀ j u, (bareN kd key tx quo ln).row[j]? = some u → (w.alloc (Obj.cells #[.int .i64 kd, .string key, .string tx, .bool quo, .int .i64 ln, .slice none 0 0] 68)).drew.cell? ((⟨w.heap.size, 0, none⟩ : Addr).add j) = some u) := World.news_of_block (w := (w.alloc (Obj.cells #[.int .i64 kd, .string key, .string tx, .bool quo, .int .i64 ln, .slice none 0 0] 68)).drew) (Go.heap_alloc_new w _)
    have hszD : base ≤ (w.alloc (Obj.cells #[.int .i64 kd, .string key, .string tx, .bool quo, .int .i64 ln, .slice none 0 0] 68)).drew.heap.size := Nat.le_trans hbase (by show w.heap.size ≤ (w.alloc _).heap.size; simp)
    have hL40 : L + 1 ≤ 4096 := by omega
    have hLm : L + 1 ≤ maxLen := by unfold maxLen; omega
    have hLb : (L + 1) * 80 ≤ 140737488355328 := by omega
    have HFV : Hid (∀ k, k < base → (Value.slice va L vc).ownBlock ≠ some k) := fun k hk e => by
      have h1 := hO.row
      rw [hL] at h1
      have := (h1.lt k e).1; omega
    have HPW : Hid (p < w.heap.size) := by show p < w.heap.size; omega
    have HHI := hideL hhi
    have HFP := hideL hFp
    have HFR : Hid (∀ r, (Value.slice ao K cp).ownBlock = some r → F r) := by rw [hK] at hFr; exact hFr
    clear hO hkids hown hb ih hK hL hsz' hF hT' hFr hh hsz hhi
    go_enter Tryz.func23, Tryz.ntmps23
    go_wp2_with fail
    go_region_held3 (fun w' => w'.cell? ⟨p, 0, none⟩ = some (.int .i64 kd) ∧ w'.cell? ⟨p, 1, none⟩ = some (.string key) ∧ w'.cell? ⟨p, 2, none⟩ = some (.string tx) ∧ w'.cell? ⟨p, 3, none⟩ = some (.bool quo) ∧ w'.cell? ⟨p, 4, none⟩ = some (.int .i64 ln)) (go_keep)
      (first | (refine step_append_at rfl (.tmp 10) (.tmp 32) 47 rfl base 68 i51 _ 6 80 Tryz.underlying47 hi51 hx0 hx1 hx2 rfl (by decide) (.slice va L vc) L (rowsN os) rfl HOD.out ⟨w.heap.size, 0, none⟩ 1 1 (bareN kd key tx quo ln).row rfl rfl HND.out (row_one _) hLm hLb hszD ?_; intro v3 w3 hown3 hgrow3 hat3; have LW := Lw.start (mm := 1) (me := bareN kd key tx quo ln) ⟨rfl, rfl, rfl⟩ HO0.out (by rw [HLL.out]; exact hown3) (by rw [HLL.out]; exact hgrow3) (by rw [HLL.out]; exact hat3); have HLW := hideL LW; obtain ⟨a3, c3, rfl, _⟩ := own_form hown3; have hp3 := LW.tch.block p HPW.out (by rw [HLL.out]; exact HFV.out p hpb); have hp4 := hp3.trans HBP.out; have n0 : w3.cell? ⟨p, 0, none⟩ = some (.int .i64 kd) := (by rw [cell_block hp4]; rfl); have n1 : w3.cell? ⟨p, 1, none⟩ = some (.string key) := (by rw [cell_block hp4]; rfl); have n2 : w3.cell? ⟨p, 2, none⟩ = some (.string tx) := (by rw [cell_block hp4]; rfl); have n3 : w3.cell? ⟨p, 3, none⟩ = some (.bool quo) := (by rw [cell_block hp4]; rfl); have n4 : w3.cell? ⟨p, 4, none⟩ = some (.int .i64 ln) := (by rw [cell_block hp4]; rfl); clear hown3 hgrow3 hat3 LW hp3 hp4))
    clear z0 z1 z2 z3 z4 n0 n1 n2 n3 n4 HOD HND
    go_wp2_with fail
    go_loopw [1, 6, 7] (fun u1 u6 u7 wr => ∃ (i : Nat) (ns : List Nx), u7 = .int .i64 i ∧ i ≤ K ∧ Lw w wr base (.slice va os.length vc) os (bareN kd key tx quo ln) (kids.take i) u6 u1 ns) (fun _ _ t _ => K - (intOf t).toNat)
    case atStart => exact ⟨0, [], rfl, by omega, by rw [List.take_zero]; exact HLW.out⟩
    case round =>
      obtain ⟨i, ns, rfl, hi, hlw⟩ := hrel
      have i0 : (0 : Int) ≤ i := by omega
      obtain ⟨M, hM⟩ : ∃ M, os.length + 1 + sizes (kids.take i) = M := ⟨_, rfl⟩
      have hrow := hlw.own.row
      rw [hlw.lens, hM] at hrow
      obtain ⟨a1, c1, rfl, _, hMc, hcm1⟩ := own_form hrow
      have hkr := hlw.kids
      have htk : (kids.take i).length = i := by have := HKL.out; simp; omega
      rw [htk] at hkr
      obtain ⟨ka, kc, rfl, _, hic, hkm⟩ := own_form hkr
      have HLWR := hideL hlw
      have HROW := hideL hrow
      have HKR := hideL hkr
      have HM := hideL hM
      have HTK := hideL htk
      have HML : Hid (M = L + 1 + sizes (kids.take i)) := by show _ = _; rw [← hM, HLL.out]
      have hLM0 : L < M := by have := HML.out; omega
      have hp4 : wr.heap[p]? = _ := (hlw.tch.block p HPW.out (by rw [HLL.out]; exact HFV.out p hpb)).trans HBP.out
      have z5 : wr.cell? ⟨p, 5, none⟩ = some (.slice ao K cp) := by rw [cell_block hp4]; rfl
      have HTURN : Hid (∀ k, F k → wr.heap[k]? = w.heap[k]?) := fun k hk => by
        have hkb := HF.out k hk
        exact hlw.tch.block k (by omega) (by rw [HLL.out]; exact HFV.out k hkb)
      have HWR : Hid (w.heap.size ≤ wr.heap.size) := hlw.tch.size
      have HTU3 : Hid (∀ W, Tch w W (.slice va os.length vc) → ∀ k, F k → W.heap[k]? = wr.heap[k]?) := fun W hW k hk => by
        have hkb := HF.out k hk
        exact (hW.block k (by omega) (by rw [HLL.out]; exact HFV.out k hkb)).trans (HTURN.out k hk).symm
      clear hlw hrow hkr hM htk hp4
      by_cases h3 : i < K
      · have h3' : (i : Int) < K := by omega
        rcases hki : kids[i]? with _ | t2
        · have := List.getElem?_eq_none_iff.1 hki; have := HKL.out; omega
        obtain ⟨p2, hp2, hT2⟩ := HKID.out.at_ hki
        obtain ⟨r, rfl⟩ := own_some HKO.out (by omega)
        have zr0 : w.cell? ⟨r, i, none⟩ = some (.pointer (some ⟨p2, 0, none⟩)) := by rw [HKO.out.cellAt i (by omega)]; exact ptrs_at hp2
        have zr : wr.cell? ⟨r, i, none⟩ = some (.pointer (some ⟨p2, 0, none⟩)) := by
          rw [← zr0]
          exact World.cell?_of_block (w := w) (a := ⟨r, i, none⟩) (HTURN.out r (HFR.out r rfl))
        have hsz2 : M + t2.size ≤ 4096 := by
          have h1 := sizes_take_succ hki
          have h2 := sizes_take_le kids (i + 1)
          have := HSZ.out; have := HML.out
          omega
        have hpos2 : 0 < t2.size := size_pos t2
        have HT2 := hideL hT2
        have HHK := hideL (high_kid hki)
        have HTS := hideL (take_snoc hki)
        have HKA : Hid ((wr.alloc (Obj.cells #[.int .i64 M] 3)).ownsRow base 3 1 (.slice ka i kc) i (iV (starts (kids.take i) (os.length + 1)))) := HKR.out.alloc _
        have hwb : base ≤ (wr.alloc (Obj.cells #[.int .i64 M] 3)).heap.size := by have := HWR.out; simp; omega
        have him : i + 1 ≤ maxLen := by have := HTK.out; have := len_sizes (kids.take i); have := HML.out; unfold maxLen; omega
        have hib : (i + 1) * 8 ≤ 140737488355328 := by have := HTK.out; have := len_sizes (kids.take i); have := HML.out; omega
        clear hki hp2 hT2 zr0
        go_wp2_with (at_builtin; refine wpList_append_at _ rfl (.tmp 43) (.tmp 46) 66 rfl base 3 i3 (.int .i64 0) 1 8 Tryz.underlying66 hi3 hy0 hy1 hy2 rfl (by decide) _ i (iV (starts (kids.take i) (os.length + 1))) rfl HKA.out ⟨wr.heap.size, 0, none⟩ 1 1 [.int .i64 M] rfl rfl (World.news_of_block (Go.heap_alloc_new wr _)) (by intro u hu; simp at hu; subst hu; rfl) him hib hwb ?_; intro kv3 w3 hown3 hgrow3 hat3; have HN3 := hideL (Lw.numbered (kv' := kv3) HLWR.out rfl HO0.out hgrow3); have HW3 := hideL hown3; have HG3 := hideL hgrow3; have HA3 := hideL hat3; obtain ⟨k3, c3, rfl, _⟩ := own_form hown3; have zr3 : w3.cell? ⟨r, i, none⟩ = some (.pointer (some ⟨p2, 0, none⟩)) := (by rw [← zr]; exact World.cell?_of_block (w := wr) (a := ⟨r, i, none⟩) (HTU3.out w3 HN3.out.2 r (HFR.out r rfl))); have z53 : w3.cell? ⟨p, 5, none⟩ = some (.slice (some ⟨r, 0, none⟩) K cp) := (by rw [← z5]; exact World.cell?_of_block (w := wr) (a := ⟨p, 5, none⟩) (HTU3.out w3 HN3.out.2 p HFP.out)); clear hown3 hgrow3 hat3)
        have HCALL := hideL (HI.out t2 p2 w3 (.slice a1 M c1) (os ++ bareN kd key tx quo ln :: ns) (by have := HHK.out; have := HHI.out; omega) (by rw [HLWR.out.lens, HM.out]; exact hsz2) (by have := HN3.out.2.size; omega) (TrIn.turn (fun k hk => hk) (fun k hk => (HTU3.out w3 HN3.out.2 k hk).trans (HTURN.out k hk)) t2 p2 HT2.out) HN3.out.1)
        rw [HLWR.out.lens] at HCALL
        go_wp2_with fail
        refine HCALL.out.mono ?_
        rintro e w4 ⟨v4, ns2, rfl, hE⟩
        have HLW4 : Hid (Lw w w4 base (.slice va os.length vc) os (bareN kd key tx quo ln) (kids.take (i + 1)) (.slice k3 (i + 1) c3) v4 (ns ++ ns2)) := by
          have h3 := HW3.out
          have h1 := HTK.out
          rw [← HM.out] at h3
          have := Lw.more (t := t2) HLWR.out rfl HO0.out (by rw [h1]; exact h3) HG3.out HA3.out hE
          rw [HTS.out]
          exact this
        clear hE HCALL
        go_wp2_with fail
        go_roundw
        case rel => exact ⟨i + 1, ns ++ ns2, by go_num, by omega, HLW4.out⟩
        case measure => simp [intOf]; omega
      · have h3' : ¬ (i : Int) < K := by omega
        obtain rfl : i = K := by omega
        obtain ⟨g, rfl⟩ := own_some HROW.out (by omega)
        have hT : kids.take i = kids := List.take_of_length_le (by rw [HKL.out]; omega)
        have HD : Hid (LdE w base (.slice va os.length vc) os (Tr.flat (.node kd key tx quo ln kids) os.length) (wr.setCell ⟨g, os.length * 6 + 5, none⟩ (.slice ka kids.length kc)) (.slice (some ⟨g, 0, none⟩) M c1) (⟨kd, key, tx, quo, ln, ka, kids.length, kc, starts kids (os.length + 1)⟩ :: ns)) := by
          have h1 := HLWR.out
          rw [hT] at h1
          refine Lw.done (by rw [HKL.out]; exact h1) ?_ (by have := len_sizes kids; have := HSZ.out; omega)
          rw [← HM.out, hT]
        have zc : wr.cell? ⟨g, L * 6 + 5, none⟩ = some (.slice none 0 0) := by
          rw [HROW.out.cellAt (L * 6 + 5) (by omega)]
          have := rowsN_at (os ++ bareN kd key tx quo ln :: ns) L (bareN kd key tx quo ln) (by rw [← HLL.out]; simp) 5 (.slice none 0 0) rfl
          exact this
        have zf : wr.frozen? ⟨g, L * 6 + 5, none⟩ = false := HROW.out.frozenAt (L * 6 + 5)
        have hLM : (L : Int) < M := by omega
        have hL0 : (0 : Int) ≤ L := by omega
        have HHL : Hid (kids.length = i) := HKL.out
        clear hT
        go_wp2
        go_ret
        refine ⟨_, rfl, ⟨kd, key, tx, quo, ln, ka, i, kc, starts kids (os.length + 1)⟩ :: ns, ?_⟩
        have := HD.out
        rw [HHL.out] at this
        rw [HLL.out] at this ⊢
        exact this
end Go.Proofs.YtmmnpnhffgpchaaGreatDoor
