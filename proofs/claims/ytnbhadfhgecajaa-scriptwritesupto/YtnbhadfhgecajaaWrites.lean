/-
  The walk of ScriptWrites.
-/
import Derived.Test.YtnbhadfhgecajaaSame
import Derived.Deep.RegionHeld3
namespace Go.Proofs.Ytnbhadfhgecajaa
open Go.RowKit
set_option linter.unusedVariables false

theorem Try.info32 : (Try.prog.info? 32).map (fun i => (i.zero, i.size, i.bytes)) = some (some (.agg #[.int .i64 0, .int .i64 0, .int .i64 0, .slice none 0 0]), 4, 48) := by kernel_rfl
theorem Try.info34 : (Try.prog.info? 34).map (fun i => (i.zero, i.size, i.bytes)) = some (some (.agg #[.int .i64 0, .int .i64 0, .int .i64 0, .slice none 0 0, .int .i64 0]), 5, 56) := by kernel_rfl

theorem step_append_own {P : Program} {ops : Array Oper} {o : Oper} {a : Act} {w : World} {K : Act → World → Prop} {Q : Exit → Act → World → Prop} {E : Prop}
    (hg : o.guard = none) (s x : Operand) (t : TypeId) (hop : o.op = Op.call { callee := Callee.builtin Builtin.append, args := #[s, x], argTypes := #[t, t] })
    (base : Nat) (e : TypeId) (i : TypeInfo) (z : Value) (size bytes : Nat) (h1 : P.underlying t = some (.slice e)) (h2 : P.info? e = some i) (h3 : i.zero = some z) (h4 : i.size = size) (h5 : i.bytes = bytes) (h6 : z.cells.size = size) (h7 : 0 < size)
    (v : Value) (n : Nat) (xs : List Value) (hs : a.eval s = v) (hown : w.ownsRow base e size v n xs)
    (ad : Addr) (m c : Nat) (news : List Value) (hx : a.eval x = .slice (some ad) m c) (hn : news.length = m * size) (hc : ∀ j u, news[j]? = some u → w.cell? (ad.add j) = some u) (h1c : ∀ u ∈ news, u.oneCell' = true)
    (b1 : n + m ≤ maxLen) (b2 : (n + m) * bytes ≤ 140737488355328) (hb : base ≤ w.heap.size)
    (hK : ∀ v' w', w'.ownsRow base e size v' (n + m) (xs ++ news) → w.grownBy w' v.ownBlock → K (a.put o.dst v') w') :
    if Region.wanted o (yielded ops a.tmps) = true then Oper.wp P o a w K Q else E := by
  have hw : Region.wanted o (yielded ops a.tmps) = true := by simp [Region.wanted, hg]
  rw [if_pos hw]
  obtain ⟨v', w', hrun, r1, r2, _⟩ := run_append_own (P := P) w base t o.type e i z size bytes h1 h2 h3 h4 h5 h6 h7 v n xs hown ad m c news hn hc h1c b1 b2 hb
  unfold Oper.wp
  simp [execOp, hop, resolve, invoke, builtin, hs, hx, hrun, Result.andThen]
  exact hK v' w' r1 r2

/-- The cells of a step, and of one of the document's. -/
def St.row (s : St) : List Value := [.int .i64 s.op, .int .i64 s.x, .int .i64 s.y, s.d.val]
def St.row5 (s : St) : List Value := [.int .i64 s.op, .int .i64 s.x, .int .i64 s.y, s.d.val, .int .i64 0]
/-- A step like another, its data lent. -/
structure Twin (W : World) (base : Nat) (t s : St) : Prop where
  op : t.op = s.op
  x : t.x = s.x
  y : t.y = s.y
  n : t.d.n = s.d.n
  zs : t.d.zs = s.d.zs
  lent : ∃ g, t.d.a = some ⟨g, 0, none⟩ ∧ Row W base g t.d.n t.d.cap t.d.zs
/-- What the first loop has gathered. -/
structure InL (w W : World) (ss ts : List St) (k : Nat) (v3 v4 : Value) : Prop where
  len : ts.length = k
  twin : ∀ (i : Nat) (t s : St), ts[i]? = some t → ss[i]? = some s → Twin W w.heap.size t s
  ins : W.ownsRow w.heap.size 32 4 v3 k (ts.flatMap St.row)
  refs : W.ownsRow w.heap.size 34 5 v4 k ((ss.take k).flatMap St.row5)
  below : Below w.heap.size w W

theorem own_blk {w w' : World} {base : Nat} {e : TypeId} {size : Nat} {v : Value} {n : Nat} {xs : List Value} (h : w.ownsRow base e size v n xs) (hb : ∀ k, v.ownBlock = some k → w'.heap[k]? = w.heap[k]?) : w'.ownsRow base e size v n xs := by
  refine ⟨h.1, ?_⟩
  rcases h.2 with h0 | ⟨g, cap, cur, rfl, hbg, hgg, rest⟩
  · exact .inl h0
  · exact .inr ⟨g, cap, cur, rfl, hbg, (hb g rfl).trans hgg, rest⟩
theorem own_low {w : World} {base base' : Nat} {e : TypeId} {size : Nat} {v : Value} {n : Nat} {xs : List Value} (h : w.ownsRow base e size v n xs) (hb : base' ≤ base) : w.ownsRow base' e size v n xs := by
  refine ⟨h.1, ?_⟩
  rcases h.2 with h0 | ⟨g, cap, cur, rfl, hbg, rest⟩
  · exact .inl h0
  · exact .inr ⟨g, cap, cur, rfl, Nat.le_trans hb hbg, rest⟩
theorem own_apart {w : World} {b1 b2 : Nat} {e1 e2 : TypeId} {s1 s2 : Nat} {v1 v2 : Value} {n1 n2 : Nat} {x1 x2 : List Value} (h1 : w.ownsRow b1 e1 s1 v1 n1 x1) (h2 : w.ownsRow b2 e2 s2 v2 n2 x2) (hne : e1 ≠ e2) (k : Nat) (hk : v1.ownBlock = some k) : some k ≠ v2.ownBlock := by
  rcases h1.2 with ⟨rfl, _⟩ | ⟨g, cp, cur, rfl, _, hgg, _⟩
  · simp [Value.ownBlock] at hk
  · simp only [Value.ownBlock, Option.some.injEq] at hk
    subst hk
    rcases h2.2 with ⟨rfl, _⟩ | ⟨g', cap, cur', rfl, _, hgg', _⟩
    · simp [Value.ownBlock]
    · simp only [Value.ownBlock]
      intro e'
      cases e'
      rw [hgg] at hgg'
      cases hgg'
      exact hne rfl
/-- A row stays while another row, of another type, grows. -/
theorem own_beside {w W w' : World} {b1 b2 : Nat} {e1 e2 : TypeId} {s1 s2 : Nat} {v1 v2 : Value} {n1 n2 : Nat} {x1 x2 : List Value} (h1 : w.ownsRow b1 e1 s1 v1 n1 x1) (h2 : w.ownsRow b2 e2 s2 v2 n2 x2) (hne : e1 ≠ e2) (hb : Below w.heap.size w W) (hg : W.grownBy w' v2.ownBlock) : w'.ownsRow b1 e1 s1 v1 n1 x1 :=
  own_blk h1 fun k hk => (hg.block k (Nat.lt_of_lt_of_le (h1.lt k hk).2 hb.size) (own_apart h1 h2 hne k hk)).trans (hb.block k (h1.lt k hk).2)
theorem Row.low {w : World} {base base' g n cap : Nat} {zs : List Int} (h : Row w base g n cap zs) (hb : base' ≤ base) : Row w base' g n cap zs := ⟨h.len, h.oct, h.small, own_low h.owns hb⟩
theorem Row.beside {w W w' : World} {base g n cap : Nat} {zs : List Int} {b2 : Nat} {e2 : TypeId} {s2 : Nat} {v2 : Value} {n2 : Nat} {x2 : List Value} (h : Row w base g n cap zs) (h2 : w.ownsRow b2 e2 s2 v2 n2 x2) (hne : 5 ≠ e2) (hb : Below w.heap.size w W) (hg : W.grownBy w' v2.ownBlock) : Row w' base g n cap zs :=
  ⟨h.len, h.oct, h.small, own_beside h.owns h2 hne hb hg⟩
theorem Twin.map {w w' : World} {base : Nat} {t s : St} (h : Twin w base t s) (hR : ∀ g, Row w base g t.d.n t.d.cap t.d.zs → Row w' base g t.d.n t.d.cap t.d.zs) : Twin w' base t s :=
  ⟨h.op, h.x, h.y, h.n, h.zs, by obtain ⟨g, h1, h2⟩ := h.lent; exact ⟨g, h1, hR g h2⟩⟩

/-- In a round: a step more is in the list, not yet in the document's. -/
structure Mid (w W : World) (ss ts : List St) (k : Nat) (v3 v4 : Value) : Prop where
  len : ts.length = k + 1
  twin : ∀ (i : Nat) (t s : St), ts[i]? = some t → ss[i]? = some s → Twin W w.heap.size t s
  ins : W.ownsRow w.heap.size 32 4 v3 (k + 1) (ts.flatMap St.row)
  refs : W.ownsRow w.heap.size 34 5 v4 k ((ss.take k).flatMap St.row5)
  below : Below w.heap.size w W
theorem Mid.later {w W W' : World} {ss ts : List St} {k : Nat} {v3 v4 : Value} (h : Mid w W ss ts k v3 v4) (hb : Below W.heap.size W W') : Mid w W' ss ts k v3 v4 :=
  ⟨h.len, fun i t s h1 h2 => (h.twin i t s h1 h2).map (fun g hr => hr.below hb hr.lt.2), own_blk h.ins (fun k hk => hb.block k (h.ins.lt k hk).2), own_blk h.refs (fun k hk => hb.block k (h.refs.lt k hk).2), h.below.trans (hb.mono h.below.size)⟩
theorem mid_of {w wr w1 w2 : World} {ss ts : List St} {k g dn cp g3 c3 : Nat} {v3 v4 u : Value} {o : Obj} {op x y : Int} {da : Option Addr} {dc wbs : Nat} {zs : List Int} (hI : InL w wr ss ts k v3 v4) (hsk : ss[k]? = some ⟨op, x, y, ⟨da, dn, dc, zs⟩⟩) (hb : Below wr.heap.size wr w1) (hlt : wr.heap.size < wbs) (hR : Row w1 wbs g dn cp zs)
    (hown : w2.ownsRow w.heap.size 32 4 (.slice (some ⟨g3, 0, none⟩) (k + 1) c3) (k + 1) (ts.flatMap St.row ++ St.row ⟨op, x, y, ⟨some ⟨g, 0, none⟩, dn, cp, zs⟩⟩)) (hg : ((w1.setCell ⟨wr.heap.size, 3, none⟩ u).alloc o).grownBy w2 v3.ownBlock) :
    Mid w w2 ss (ts ++ [⟨op, x, y, ⟨some ⟨g, 0, none⟩, dn, cp, zs⟩⟩]) k (.slice (some ⟨g3, 0, none⟩) (k + 1) c3) v4 := by
  have hws := hI.below.size
  have hX : Below wr.heap.size wr ((w1.setCell ⟨wr.heap.size, 3, none⟩ u).alloc o) := (hb.setCell (p := ⟨wr.heap.size, 3, none⟩) (Nat.le_refl _) u).alloc (by have := hb.size; simpa [World.setCell] using this) _
  have hgr := hR.lt
  refine ⟨by simp [hI.len], fun i t s ht hs' => ?_, by simpa using hown, own_beside hI.refs hI.ins (by decide) hX hg, ?_⟩
  · by_cases hi : i < k
    · rw [List.getElem?_append_left (by rw [hI.len]; exact hi)] at ht
      exact (hI.twin i t s ht hs').map (fun g' hr => hr.beside hI.ins (by decide) hX hg)
    · have hil := (List.getElem?_eq_some_iff.1 ht).1
      rw [List.length_append, hI.len] at hil
      obtain rfl : i = k := by simp at hil; omega
      rw [List.getElem?_append_right (by rw [hI.len]; omega), hI.len] at ht
      simp at ht
      rw [hsk] at hs'
      cases hs'
      subst ht
      refine ⟨rfl, rfl, rfl, rfl, rfl, g, rfl, ?_⟩
      have hR' : Row w2 wbs g dn cp zs := ⟨hR.len, hR.oct, hR.small, own_blk hR.owns (fun k hk => by
        simp only [Value.ownBlock, Option.some.injEq] at hk
        subst hk
        have e1 : ((w1.setCell ⟨wr.heap.size, 3, none⟩ u).alloc o).heap[g]? = w1.heap[g]? := by
          rw [heap_alloc_old _ _ (by simpa [World.setCell] using hgr.2)]
          exact Below.heap_setCell _ _ _ _ (by show g ≠ wr.heap.size; omega)
        refine (hg.block g (by have := hgr.2; simp [World.setCell]; omega) (fun e => ?_)).trans e1
        have := (hI.ins.lt g e.symm).2
        omega)⟩
      exact hR'.low (by omega)
  · exact (hI.below.trans (hX.mono hws)).grown hg (by have := hX.size; omega) (fun k hk => (hI.ins.lt k hk).1)
theorem fin_of {w w2 W w3 : World} {ss ts : List St} {k g4 c4 : Nat} {v3 v4 : Value} {s : St} (hM : Mid w w2 ss ts k v3 v4) (hsk : ss[k]? = some s) (hb : Below w2.heap.size w2 W)
    (hown : w3.ownsRow w.heap.size 34 5 (.slice (some ⟨g4, 0, none⟩) (k + 1) c4) (k + 1) ((ss.take k).flatMap St.row5 ++ s.row5)) (hg : W.grownBy w3 v4.ownBlock) :
    InL w w3 ss ts (k + 1) v3 (.slice (some ⟨g4, 0, none⟩) (k + 1) c4) := by
  obtain ⟨hk, rfl⟩ := List.getElem?_eq_some_iff.1 hsk
  refine ⟨hM.len, fun i t s ht hs' => (hM.twin i t s ht hs').map (fun g' hr => hr.beside hM.refs (by decide) hb hg), own_beside hM.ins hM.refs (by decide) hb hg, ?_, ?_⟩
  · rw [List.take_succ_eq_append_getElem hk, List.flatMap_append]; simpa using hown
  · exact (hM.below.trans (hb.mono hM.below.size)).grown hg (by have := hb.size; have := hM.below.size; omega) (fun k hk => (hM.refs.lt k hk).1)
theorem mem_sum (ss : List St) (s : St) (h : s ∈ ss) : s.d.n ≤ (ss.map fun s => 5 + s.d.n).sum := by
  induction ss with
  | nil => cases h
  | cons x r ih =>
    rw [List.map_cons, List.sum_cons]
    rcases List.mem_cons.1 h with rfl | h
    · omega
    · have := ih h; omega
theorem row_one (s : St) : ∀ u ∈ s.row, u.oneCell' = true := by
  intro u hu
  simp [St.row] at hu
  rcases hu with rfl | rfl | rfl | rfl <;> rfl
theorem row5_one (s : St) : ∀ u ∈ s.row5, u.oneCell' = true := by
  intro u hu
  simp [St.row5] at hu
  rcases hu with rfl | rfl | rfl | rfl | rfl <;> rfl

/-- What of a step its form hangs on. -/
def St.sig (s : St) : Int × Int × Int × Nat × List Int := (s.op, s.x, s.y, s.d.n, s.d.zs)
theorem form_sig (s t : St) (h : s.sig = t.sig) : formOf s = formOf t ∧ (MayBe s ↔ MayBe t) ∧ 5 + s.d.n = 5 + t.d.n := by
  simp only [St.sig, Prod.mk.injEq] at h
  obtain ⟨h1, h2, h3, h4, h5⟩ := h
  refine ⟨?_, ?_, by omega⟩
  · unfold formOf; rw [h1, h2, h3, h4, h5]
  · unfold MayBe; rw [h1, h2, h3, h4]
theorem sigs_of (ts ss : List St) (hl : ts.length = ss.length) (h : ∀ (i : Nat) (t s : St), ts[i]? = some t → ss[i]? = some s → t.sig = s.sig) : formAll ts = formAll ss ∧ ((∀ t ∈ ts, MayBe t) ↔ ∀ s ∈ ss, MayBe s) ∧ (ts.map fun s => 5 + s.d.n).sum = (ss.map fun s => 5 + s.d.n).sum := by
  induction ts generalizing ss with
  | nil =>
    cases ss with
    | nil => simp
    | cons s r => simp at hl
  | cons t r ih =>
    cases ss with
    | nil => simp at hl
    | cons s q =>
      obtain ⟨i1, i2, i3⟩ := ih q (by simpa using hl) (fun i t s h1 h2 => h (i + 1) t s (by simpa using h1) (by simpa using h2))
      obtain ⟨f1, f2, f3⟩ := form_sig t s (h 0 t s rfl rfl)
      refine ⟨?_, ?_, ?_⟩
      · have e1 : formAll (t :: r) = formOf t ++ formAll r := by simp [formAll]
        have e2 : formAll (s :: q) = formOf s ++ formAll q := by simp [formAll]
        rw [e1, e2, f1, i1]
      · simp only [List.forall_mem_cons, f2, i2]
      · rw [List.map_cons, List.map_cons, List.sum_cons, List.sum_cons, i3, f3]
theorem Twin.sig {W : World} {base : Nat} {t s : St} (h : Twin W base t s) : t.sig = s.sig := by
  unfold St.sig; rw [h.op, h.x, h.y, h.n, h.zs]
theorem flat_get (m : Nat) (f : St → List Value) (hm : ∀ s, (f s).length = m) (ss : List St) (i j : Nat) (s : St) (h : ss[i]? = some s) (hj : j < m) : (ss.flatMap f)[i * m + j]? = (f s)[j]? := by
  induction ss generalizing i with
  | nil => simp at h
  | cons x r ih =>
    rw [List.flatMap_cons]
    cases i with
    | zero => simp at h; subst h; rw [List.getElem?_append_left (by rw [hm]; omega)]; simp
    | succ i =>
      have e : (i + 1) * m = i * m + m := Nat.succ_mul i m
      rw [List.getElem?_append_right (by rw [hm, e]; omega), hm, show (i + 1) * m + j - m = i * m + j by omega]
      exact ih i (by simpa using h)
theorem ins_cell {w W : World} {ss ts : List St} {k g c : Nat} {v4 : Value} (hI : InL w W ss ts k (.slice (some ⟨g, 0, none⟩) k c) v4) (i : Nat) (t : St) (ht : ts[i]? = some t) (j : Nat) (u : Value) (hu : t.row[j]? = some u) : W.cell? ⟨g, i * 4 + j, none⟩ = some u := by
  have hi := (List.getElem?_eq_some_iff.1 ht).1
  rw [hI.len] at hi
  have hj : j < 4 := by have := (List.getElem?_eq_some_iff.1 hu).1; simpa [St.row] using this
  rw [hI.ins.cellAt (i * 4 + j) (by omega), flat_get 4 St.row (fun s => rfl) ts i j t ht hj, hu]
theorem refs_cell {w W : World} {ss ts : List St} {k g c : Nat} {v3 : Value} (hI : InL w W ss ts k v3 (.slice (some ⟨g, 0, none⟩) k c)) (i : Nat) (s : St) (hi : i < k) (ht : ss[i]? = some s) (j : Nat) (u : Value) (hu : s.row5[j]? = some u) : W.cell? ⟨g, i * 5 + j, none⟩ = some u := by
  have hj : j < 5 := by have := (List.getElem?_eq_some_iff.1 hu).1; simpa [St.row5] using this
  rw [hI.refs.cellAt (i * 5 + j) (by omega), flat_get 5 St.row5 (fun s => rfl) (ss.take k) i j s (by rw [List.getElem?_take, if_pos hi]; exact ht) hj, hu]
theorem ins_ls {w W : World} {ss ts : List St} {k g c : Nat} {v4 : Value} (hI : InL w W ss ts k (.slice (some ⟨g, 0, none⟩) k c) v4) (hk : k = ss.length) : LS W (some ⟨g, 0, none⟩) ts := by
  refine ⟨fun t ht => ?_, .inr ⟨g, 0, rfl, fun i t ht j u hu => ?_⟩⟩
  · obtain ⟨i, hi⟩ := List.getElem?_of_mem ht
    have hil := (List.getElem?_eq_some_iff.1 hi).1
    rw [hI.len, hk] at hil
    obtain ⟨g', h1, h2⟩ := (hI.twin i t ss[i] hi (List.getElem?_eq_getElem hil)).lent
    rw [h1]; exact h2.bs
  · rw [Nat.zero_add]
    have e : t.cells = t.row.toArray := rfl
    rw [e, List.getElem?_toArray] at hu
    exact ins_cell hI i t ht j u hu
theorem refs_lr {w W : World} {ss ts : List St} {k g c : Nat} {v3 : Value} (hI : InL w W ss ts k v3 (.slice (some ⟨g, 0, none⟩) k c)) (hk : k = ss.length) (hs : ∀ s ∈ ss, Bs w s.d.a s.d.n s.d.cap s.d.zs) : LR W (some ⟨g, 0, none⟩) ss := by
  refine ⟨fun s h => (hs s h).below hI.below, .inr ⟨g, 0, rfl, fun i s h => ⟨0, fun j u hu => ?_⟩⟩⟩
  rw [Nat.zero_add]
  have e : s.cells.push (.int .i64 0) = s.row5.toArray := rfl
  rw [e, List.getElem?_toArray] at hu
  exact refs_cell hI i s (by rw [hk]; exact (List.getElem?_eq_some_iff.1 h).1) h j u hu
theorem LR.below {w W : World} {a : Option Addr} {ss : List St} (h : LR w a ss) (hb : Below w.heap.size w W) : LR W a ss := by
  refine ⟨fun s hs => (h.1 s hs).below hb, ?_⟩
  rcases h.2 with h | ⟨b, off, rfl, e⟩
  · exact .inl h
  · refine .inr ⟨b, off, rfl, fun i s hi => ?_⟩
    obtain ⟨at0, e0⟩ := e i s hi
    exact ⟨at0, fun j u hu => (hb.cell (p := ⟨b, _, none⟩) (by have := World.block_lt_of_cell? w _ (e0 j u hu); simpa using this)).trans (e0 j u hu)⟩
theorem InL.later {w W W' : World} {ss ts : List St} {k : Nat} {v3 v4 : Value} (h : InL w W ss ts k v3 v4) (hb : Below W.heap.size W W') : InL w W' ss ts k v3 v4 :=
  ⟨h.len, fun i t s h1 h2 => (h.twin i t s h1 h2).map (fun g hr => hr.below hb hr.lt.2), own_blk h.ins (fun k hk => hb.block k (h.ins.lt k hk).2), own_blk h.refs (fun k hk => hb.block k (h.refs.lt k hk).2), h.below.trans (hb.mono h.below.size)⟩

theorem has_drew {w : World} {a : Option Addr} {zs : List Int} (h : Has w a zs) : Has w.drew a zs := has_drewN h 1
theorem below_next {w wr w3 : World} (h : Below w.heap.size w wr) (hb : Below wr.drew.heap.size wr.drew w3) : Below w.heap.size w w3 := h.drew.trans (hb.mono h.drew.size)
theorem row_next {wr w3 : World} {base g n c : Nat} {zs : List Int} (h : Row wr base g n c zs) (hb : Below wr.drew.heap.size wr.drew w3) : Row w3 base g n c zs := h.below (B := wr.heap.size) ((Below.refl _ wr).drew.trans hb) h.lt.2
theorem has_next {wr w3 : World} {a : Option Addr} {zs : List Int} (h : Has wr a zs) (hb : Below wr.drew.heap.size wr.drew w3) : Has w3 a zs := h.of_below ((Below.refl _ wr).drew.trans hb)
theorem formAll_pos (ss : List St) (h : ss ≠ []) : 0 < (formAll ss).length := by
  cases ss with
  | nil => exact absurd rfl h
  | cons s r =>
    have e : formAll (s :: r) = formOf s ++ formAll r := by simp [formAll]
    rw [e, List.length_append]
    simp [formOf]
    omega

/-- What a round of the second loop reads. -/
def Round (W : World) (g3 g4 b off i : Nat) (t s : St) : Prop :=
  (W.cell? ⟨g3, i * 4, none⟩ = some (.int .i64 t.op) ∧ W.cell? ⟨g3, i * 4 + 1, none⟩ = some (.int .i64 t.x) ∧ W.cell? ⟨g3, i * 4 + 2, none⟩ = some (.int .i64 t.y) ∧ W.cell? ⟨g3, i * 4 + 3, none⟩ = some t.d.val) ∧
  (W.cell? ⟨g4, i * 5, none⟩ = some (.int .i64 s.op) ∧ W.cell? ⟨g4, i * 5 + 1, none⟩ = some (.int .i64 s.x) ∧ W.cell? ⟨g4, i * 5 + 2, none⟩ = some (.int .i64 s.y) ∧ W.cell? ⟨g4, i * 5 + 3, none⟩ = some s.d.val ∧ W.cell? ⟨g4, i * 5 + 4, none⟩ = some (.int .i64 0)) ∧
  W.cell? ⟨b, off + i * 4 + 3, none⟩ = some s.d.val
theorem round_of {w W : World} {ss ts : List St} {k g3 c3 g4 c4 b off : Nat} (hI : InL w W ss ts k (.slice (some ⟨g3, 0, none⟩) k c3) (.slice (some ⟨g4, 0, none⟩) k c4)) (i : Nat) (t s : St) (hi : i < k) (ht : ts[i]? = some t) (hs : ss[i]? = some s) (hb : b < w.heap.size) (he : ∀ (j : Nat) (u : Value), s.cells[j]? = some u → w.cell? ⟨b, off + i * 4 + j, none⟩ = some u) : Round W g3 g4 b off i t s :=
  ⟨⟨ins_cell hI i t ht 0 _ rfl, ins_cell hI i t ht 1 _ rfl, ins_cell hI i t ht 2 _ rfl, ins_cell hI i t ht 3 _ rfl⟩,
   ⟨refs_cell hI i s hi hs 0 _ rfl, refs_cell hI i s hi hs 1 _ rfl, refs_cell hI i s hi hs 2 _ rfl, refs_cell hI i s hi hs 3 _ rfl, refs_cell hI i s hi hs 4 _ rfl⟩,
   (hI.below.cell (p := ⟨b, _, none⟩) hb).trans (he 3 _ rfl)⟩

set_option maxRecDepth 100000 in
set_option maxHeartbeats 4000000 in
theorem writes_some (b off n cap : Nat) (ss : List St) (w : World) (hn : ss.length = n) (hs : ∀ s ∈ ss, Bs w s.d.a s.d.n s.d.cap s.d.zs) (he : ∀ (i : Nat) (s : St), ss[i]? = some s → ∀ (j : Nat) (u : Value), s.cells[j]? = some u → w.cell? ⟨b, off + i * 4 + j, none⟩ = some u)
    (hsum : (ss.map fun s => 5 + s.d.n).sum ≤ 1099511627776) (hb : b < w.heap.size) (h0 : 0 < n) :
    Calls Try.prog 4 #[.slice (some ⟨b, off, none⟩) n cap] w fun e w' => e = .returned (.bool true) ∧ Below w.heap.size w w' := by
  obtain ⟨i32, hi32, hz320, hz321, hz322⟩ := info_parts Try.info32
  obtain ⟨i34, hi34, hz340, hz341, hz342⟩ := info_parts Try.info34
  have hnl : n ≤ 1099511627776 := by
    have : ∀ l : List St, l.length ≤ (l.map fun s => 5 + s.d.n).sum := by
      intro l
      induction l with
      | nil => simp
      | cons x r ih => simp; omega
    have := this ss; omega
  go_enter Try.func4, Try.ntmps4
  go_wp2
  go_loopw [3, 4, 5] (fun v3 v4 t wr => ∃ (k : Nat) (ts : List St), k ≤ n ∧ t = .int .i64 k ∧ InL w wr ss ts k v3 v4) (fun _ _ t _ => n - (intOf t).toNat)
  case atStart => exact ⟨0, [], by omega, rfl, rfl, fun i t s h => by simp at h, World.ownsRow_nil _ _ _ _, World.ownsRow_nil _ _ _ _, Below.refl _ _⟩
  case round =>
    obtain ⟨k, ts, hk, rfl, hI⟩ := hrel
    by_cases hlt : k < n
    · obtain ⟨s, hsk⟩ : ∃ s, ss[k]? = some s := ⟨ss[k]'(by omega), List.getElem?_eq_getElem _⟩
      have S := hs s (List.mem_of_getElem? hsk)
      have hce := he k s hsk
      obtain ⟨op, x, y, da, dn, dc, zs⟩ := s
      dsimp only at S
      have hbel := hI.below
      have c0 : wr.cell? ⟨b, off + k * 4, none⟩ = some (.int .i64 op) := (hbel.cell (p := ⟨b, _, none⟩) hb).trans (hce 0 _ rfl)
      have c1 : wr.cell? ⟨b, off + k * 4 + 1, none⟩ = some (.int .i64 x) := (hbel.cell (p := ⟨b, _, none⟩) hb).trans (hce 1 _ rfl)
      have c2 : wr.cell? ⟨b, off + k * 4 + 2, none⟩ = some (.int .i64 y) := (hbel.cell (p := ⟨b, _, none⟩) hb).trans (hce 2 _ rfl)
      have c3 : wr.cell? ⟨b, off + k * 4 + 3, none⟩ = some (.slice da dn dc) := (hbel.cell (p := ⟨b, _, none⟩) hb).trans (hce 3 _ rfl)
      have k0 : (0 : Int) ≤ k := by omega
      have k1 : (k : Int) < n := by omega
      have hdn : dn ≤ 1099511627776 := Nat.le_trans (mem_sum ss _ (List.mem_of_getElem? hsk)) hsum
      have hbr : b < wr.heap.size := Nat.lt_of_lt_of_le hb hbel.size
      go_wp2_with fail
      obtain ⟨wb, hwb⟩ : ∃ wb, wr.alloc (Obj.cells #[Value.int .i64 op, Value.int .i64 x, Value.int .i64 y, Value.slice da dn dc] 32) = wb := ⟨_, rfl⟩
      have hob : wb.heap[wr.heap.size]? = some (Obj.cells #[Value.int .i64 op, Value.int .i64 x, Value.int .i64 y, Value.slice da dn dc] 32 (0, 0)) := by rw [← hwb]; exact heap_alloc_new _ _
      have hbb : Below wr.heap.size wr wb := by rw [← hwb]; exact (Below.refl _ _).alloc (Nat.le_refl _) _
      have hlb : wr.heap.size < wb.heap.size := by rw [← hwb]; simp
      rw [hwb]
      clear hwb
      refine (lent_row da dn dc zs _ S.len (S.has.of_below (hbel.trans (hbb.mono hbel.size))) S.oct S.bare (by omega)).mono ?_
      rintro e w1 ⟨g, cp, rfl, hR1, hb1⟩
      have hob1 := (hb1.block _ hlb).trans hob
      have f0 : w1.cell? ⟨wr.heap.size, 0, none⟩ = some (.int .i64 op) := by simp [World.cell?, hob1]
      have f1 : w1.cell? ⟨wr.heap.size, 1, none⟩ = some (.int .i64 x) := by simp [World.cell?, hob1]
      have f2 : w1.cell? ⟨wr.heap.size, 2, none⟩ = some (.int .i64 y) := by simp [World.cell?, hob1]
      have f3 : w1.cell? ⟨wr.heap.size, 3, none⟩ = some (.slice da dn dc) := by simp [World.cell?, hob1]
      have f4 : w1.frozen? ⟨wr.heap.size, 3, none⟩ = false := by simp [World.frozen?, hob1]
      have hb01 : Below wr.heap.size wr w1 := hbb.trans (hb1.mono hbb.size)
      clear c0 c1 c2 c3 hob hbb hb1
      have HI : Hid (InL w wr ss ts k u3 u4) := hI
      have hbw : Below w.heap.size w w1 := hbel.trans (hb01.mono hbel.size)
      have HOX : Hid ((w1.setCell ⟨wr.heap.size, 3, none⟩ (.slice (some ⟨g, 0, none⟩) dn cp)).ownsRow w.heap.size 32 4 u3 k (ts.flatMap St.row)) := own_blk hI.ins (fun j hj => (hb01.setCell (p := ⟨wr.heap.size, 3, none⟩) (Nat.le_refl _) _).block j (hI.ins.lt j hj).2)
      have hsz1 : wr.heap.size ≤ w1.heap.size := hb01.size
      have hszr : w.heap.size ≤ wr.heap.size := hbel.size
      have HR1 : Hid (Row w1 wb.heap.size g dn cp zs) := hR1
      have HB01 : Hid (Below wr.heap.size wr w1) := hb01
      have HNX : Hid (∀ j u, (St.row ⟨op, x, y, ⟨some ⟨g, 0, none⟩, dn, cp, zs⟩⟩)[j]? = some u → ((w1.setCell ⟨wr.heap.size, 3, none⟩ (.slice (some ⟨g, 0, none⟩) dn cp)).alloc (Obj.cells #[.int .i64 op, .int .i64 x, .int .i64 y, .slice (some ⟨g, 0, none⟩) dn cp] 32)).cell? ((⟨w1.heap.size, 0, none⟩ : Addr).add j) = some u) := by
        have h1 := World.news_of_block (heap_alloc_new (w1.setCell ⟨wr.heap.size, 3, none⟩ (.slice (some ⟨g, 0, none⟩) dn cp)) (Obj.cells #[.int .i64 op, .int .i64 x, .int .i64 y, .slice (some ⟨g, 0, none⟩) dn cp] 32))
        have e1 : (w1.setCell ⟨wr.heap.size, 3, none⟩ (.slice (some ⟨g, 0, none⟩) dn cp)).heap.size = w1.heap.size := by simp [World.setCell]
        rw [e1] at h1
        exact h1
      clear hI hbw hbel hb01 hob1 hR1
      go_wp2_with (at_builtin; refine wpList_append_form _ rfl (.tmp 29) (.tmp 31) 26 rfl w.heap.size 32 i32 _ 4 48 Try.underlying26 hi32 hz320 hz321 hz322 rfl (by decide) u3 k (ts.flatMap St.row) rfl (HOX.out.alloc _) ⟨w1.heap.size, 0, none⟩ 1 1 (St.row ⟨op, x, y, ⟨some ⟨g, 0, none⟩, dn, cp, zs⟩⟩) rfl rfl HNX.out (row_one _) (by omega) (by unfold maxLen; omega) (by omega) (by simp [World.setCell]; omega) ?_; intro g3 c3 w2 hown2 hgrow2; have HM := mid_of HI.out hsk HB01.out hlb HR1.out hown2 hgrow2; clear hown2 hgrow2)
      have hbM := HM.below
      have hc0 : w2.cell? ⟨b, off + k * 4, none⟩ = some (.int .i64 op) := (hbM.cell (p := ⟨b, _, none⟩) hb).trans (hce 0 _ rfl)
      have hc1 : w2.cell? ⟨b, off + k * 4 + 1, none⟩ = some (.int .i64 x) := (hbM.cell (p := ⟨b, _, none⟩) hb).trans (hce 1 _ rfl)
      have hc2 : w2.cell? ⟨b, off + k * 4 + 2, none⟩ = some (.int .i64 y) := (hbM.cell (p := ⟨b, _, none⟩) hb).trans (hce 2 _ rfl)
      have hc3 : w2.cell? ⟨b, off + k * 4 + 3, none⟩ = some (.slice da dn dc) := (hbM.cell (p := ⟨b, _, none⟩) hb).trans (hce 3 _ rfl)
      have hb2 : b < w2.heap.size := Nat.lt_of_lt_of_le hb hbM.size
      have HMM : Hid (Mid w w2 ss (ts ++ [⟨op, x, y, ⟨some ⟨g, 0, none⟩, dn, cp, zs⟩⟩]) k (.slice (some ⟨g3, 0, none⟩) (k + 1) c3) u4) := HM
      have hbD : Below w2.heap.size w2 (w2.alloc (Obj.cells #[.int .i64 op, .int .i64 x, .int .i64 y, .slice da dn dc, .int .i64 0] 34)).drew := ((Below.refl _ w2).alloc (Nat.le_refl _) _).drew
      have HOD : Hid ((w2.alloc (Obj.cells #[.int .i64 op, .int .i64 x, .int .i64 y, .slice da dn dc, .int .i64 0] 34)).drew.ownsRow w.heap.size 34 5 u4 k ((ss.take k).flatMap St.row5)) := own_blk HM.refs (fun j hj => hbD.block j (HM.refs.lt j hj).2)
      have HND : Hid (∀ j u, (St.row5 ⟨op, x, y, ⟨da, dn, dc, zs⟩⟩)[j]? = some u → (w2.alloc (Obj.cells #[.int .i64 op, .int .i64 x, .int .i64 y, .slice da dn dc, .int .i64 0] 34)).drew.cell? ((⟨w2.heap.size, 0, none⟩ : Addr).add j) = some u) := World.news_of_block (w := (w2.alloc (Obj.cells #[.int .i64 op, .int .i64 x, .int .i64 y, .slice da dn dc, .int .i64 0] 34)).drew) (heap_alloc_new w2 _)
      have hszD : w.heap.size ≤ (w2.alloc (Obj.cells #[.int .i64 op, .int .i64 x, .int .i64 y, .slice da dn dc, .int .i64 0] 34)).drew.heap.size := Nat.le_trans hbM.size hbD.size
      have HCC : Hid (∀ W, Below w.heap.size w W → W.cell? ⟨b, off + k * 4, none⟩ = some (.int .i64 op) ∧ W.cell? ⟨b, off + k * 4 + 1, none⟩ = some (.int .i64 x) ∧ W.cell? ⟨b, off + k * 4 + 2, none⟩ = some (.int .i64 y) ∧ W.cell? ⟨b, off + k * 4 + 3, none⟩ = some (.slice da dn dc)) := fun W hW => ⟨(hW.cell (p := ⟨b, _, none⟩) hb).trans (hce 0 _ rfl), (hW.cell (p := ⟨b, _, none⟩) hb).trans (hce 1 _ rfl), (hW.cell (p := ⟨b, _, none⟩) hb).trans (hce 2 _ rfl), (hW.cell (p := ⟨b, _, none⟩) hb).trans (hce 3 _ rfl)⟩
      clear HM hbM HNX HOX HI HR1 HB01 f0 f1 f2 f3 f4
      go_region_held3 (fun w' => w'.cell? ⟨b, off + k * 4, none⟩ = some (.int .i64 op) ∧ w'.cell? ⟨b, off + k * 4 + 1, none⟩ = some (.int .i64 x) ∧ w'.cell? ⟨b, off + k * 4 + 2, none⟩ = some (.int .i64 y) ∧ w'.cell? ⟨b, off + k * 4 + 3, none⟩ = some (.slice da dn dc)) (go_keep)
        (first | (refine step_append_own rfl (.tmp 33) (.tmp 55) 23 rfl w.heap.size 34 i34 _ 5 56 Try.underlying23 hi34 hz340 hz341 hz342 rfl (by decide) u4 k ((ss.take k).flatMap St.row5) rfl HOD.out ⟨w2.heap.size, 0, none⟩ 1 1 (St.row5 ⟨op, x, y, ⟨da, dn, dc, zs⟩⟩) rfl rfl HND.out (row5_one _) (by unfold maxLen; omega) (by omega) hszD ?_; intro v4' w3 hown3 hgrow3; obtain ⟨g4, c4, rfl, _⟩ := hown3.form (by omega); have HF := fin_of HMM.out hsk hbD hown3 hgrow3; clear hown3 hgrow3; obtain ⟨n0, n1, n2, n3⟩ := HCC.out w3 HF.below))
      go_wp2
      go_roundw
      case rel => exact ⟨k + 1, _, by omega, by go_num, HF⟩
      case measure => simp [intOf]; omega
    · obtain rfl : k = n := by omega
      obtain ⟨g3, c3, rfl, _⟩ := hI.ins.form h0
      obtain ⟨g4, c4, rfl, _⟩ := hI.refs.form h0
      obtain ⟨s1, s2, s3⟩ := sigs_of ts ss (hI.len.trans hn.symm) (fun i t s h1 h2 => (hI.twin i t s h1 h2).sig)
      have hLS := ins_ls hI hn.symm
      have hLR := refs_lr hI hn.symm hs
      have HI : Hid (InL w wr ss ts k (.slice (some ⟨g3, 0, none⟩) k c3) (.slice (some ⟨g4, 0, none⟩) k c4)) := hI
      have hTl := hI.len
      have hbel := hI.below
      clear hI
      go_wp2_with fail
      refine (encode_any (some ⟨g3, 0, none⟩) k c3 ts _ hTl hLS (by rw [s3]; exact hsum)).mono ?_
      rintro e w1 ⟨hb1, hE1⟩
      rw [s1, s2] at hE1
      obtain ⟨v1, e1, rfl, hE1'⟩ : ∃ v1 e1, e = .returned (.tuple #[v1, .int .i64 e1]) ∧ (((∀ s ∈ ss, MayBe s) ∧ e1 = 0 ∧ w1.ownsRow wr.heap.size 5 1 v1 (formAll ss).length (vals (formAll ss))) ∨ ((¬ ∀ s ∈ ss, MayBe s) ∧ e1 = 2 ∧ v1 = .slice none 0 0)) := by
        rcases hE1 with ⟨h1, v, h2, h3⟩ | ⟨⟨t, h1, h1'⟩, h2⟩
        · exact ⟨v, 0, h2, .inl ⟨h1, rfl, h3⟩⟩
        · exact ⟨_, 2, h2, .inr ⟨fun h => h1' (s2.2 h t h1), rfl, rfl⟩⟩
      clear hE1
      go_wp2_with fail
      refine (rencode_any (some ⟨g4, 0, none⟩) k c4 ss _ hn (hLR.below hb1) hsum).mono ?_
      rintro e w2 ⟨hb2, hE2⟩
      have hb12 : Below wr.heap.size wr w2 := hb1.trans (hb2.mono hb1.size)
      obtain ⟨v2, ok, rfl, hE⟩ : ∃ v2 ok, e = .returned (.tuple #[v2, .bool ok]) ∧ ((e1 = 0 ∧ ok = true ∧ w2.ownsRow wr.heap.size 5 1 v1 (formAll ss).length (vals (formAll ss)) ∧ w2.ownsRow w1.heap.size 5 1 v2 (formAll ss).length (vals (formAll ss))) ∨ (e1 = 2 ∧ ok = false ∧ v1 = .slice none 0 0 ∧ v2 = .slice none 0 0)) := by
        rcases hE2 with ⟨h1, v, h2, h3⟩ | ⟨⟨t, h1, h1'⟩, h2⟩
        · refine ⟨v, true, h2, .inl ?_⟩
          rcases hE1' with ⟨k1, k2, k3⟩ | ⟨k1, k2, k3⟩
          · exact ⟨k2, rfl, own_belowV k3 hb2 (Nat.le_refl _), h3⟩
          · exact absurd h1 k1
        · refine ⟨_, false, h2, .inr ?_⟩
          rcases hE1' with ⟨k1, k2, k3⟩ | ⟨k1, k2, k3⟩
          · exact absurd (k1 t h1) h1'
          · exact ⟨k2, rfl, k3, rfl⟩
      have HI2 : Hid (InL w w2 ss ts k (.slice (some ⟨g3, 0, none⟩) k c3) (.slice (some ⟨g4, 0, none⟩) k c4)) := HI.out.later hb12
      have HE : Hid ((e1 = 0 ∧ ok = true ∧ w2.ownsRow wr.heap.size 5 1 v1 (formAll ss).length (vals (formAll ss)) ∧ w2.ownsRow w1.heap.size 5 1 v2 (formAll ss).length (vals (formAll ss))) ∨ (e1 = 2 ∧ ok = false ∧ v1 = .slice none 0 0 ∧ v2 = .slice none 0 0)) := hE
      have B2 : Below w.heap.size w w2 := hbel.trans (hb12.mono hbel.size)
      clear hE hE2 hE1' HI hLS hLR hb1 hb2 hb12 hbel s1 s2 s3
      go_wp2_with fail
      go_loopw [11] (fun t W => ∃ i : Nat, i ≤ k ∧ t = .int .i64 i ∧ Below w2.heap.size w2 W) (fun t _ => k - (intOf t).toNat)
      case atStart => exact ⟨0, by omega, rfl, Below.refl _ _⟩
      case round =>
        obtain ⟨i, hi, rfl, hBW⟩ := hrel
        by_cases hik : i < k
        · obtain ⟨s, hsi⟩ : ∃ s, ss[i]? = some s := ⟨ss[i]'(by omega), List.getElem?_eq_getElem _⟩
          obtain ⟨t, hti⟩ : ∃ t, ts[i]? = some t := ⟨ts[i]'(by omega), List.getElem?_eq_getElem _⟩
          have I3 := HI2.out.later hBW
          have HCC : Hid (∀ W, Below w2.heap.size w2 W → Round W g3 g4 b off i t s) := fun W hW => round_of (HI2.out.later hW) i t s (by omega) hti hsi hb (he i s hsi)
          obtain ⟨tw1, tw2, tw3, tw4, tw5, gi, tw6, hR⟩ := I3.twin i t s hti hsi
          have S := (hs s (List.mem_of_getElem? hsi)).below I3.below
          obtain ⟨op, x, y, da, dn, dc, zs⟩ := s
          obtain ⟨op', x', y', da', dn', dc', zs'⟩ := t
          dsimp only at tw1 tw2 tw3 tw4 tw5 tw6 hR S
          subst tw1 tw2 tw3 tw4 tw5 tw6
          obtain ⟨⟨n0, n1, n2, n3⟩, ⟨r0, r1, r2, r3, r4⟩, l3⟩ := HCC.out wr hBW
          dsimp only [Sl.val] at n0 n1 n2 n3 r0 r1 r2 r3 r4 l3
          have HR : Hid (Row wr w.heap.size gi dn' dc' zs') := hR
          have HS : Hid (Bs wr da dn' dc zs') := S
          have i0 : (0 : Int) ≤ i := by omega
          have i1 : (i : Int) < k := by omega
          clear I3 hR S
          go_wp2_with fail
          go_region_held3 (fun w' => w'.cell? ⟨g3, i * 4, none⟩ = some (.int .i64 op') ∧ w'.cell? ⟨g3, i * 4 + 1, none⟩ = some (.int .i64 x') ∧ w'.cell? ⟨g3, i * 4 + 2, none⟩ = some (.int .i64 y') ∧ w'.cell? ⟨g3, i * 4 + 3, none⟩ = some (.slice (some ⟨gi, 0, none⟩) dn' dc') ∧ w'.cell? ⟨g4, i * 5, none⟩ = some (.int .i64 op') ∧ w'.cell? ⟨g4, i * 5 + 1, none⟩ = some (.int .i64 x') ∧ w'.cell? ⟨g4, i * 5 + 2, none⟩ = some (.int .i64 y') ∧ w'.cell? ⟨g4, i * 5 + 3, none⟩ = some (.slice da dn' dc) ∧ w'.cell? ⟨g4, i * 5 + 4, none⟩ = some (.int .i64 0) ∧ w'.cell? ⟨b, off + i * 4 + 3, none⟩ = some (.slice da dn' dc)) (go_keep)
            (first
              | (go_at_call 13; refine (step_any op' x' y' 0 (some ⟨gi, 0, none⟩) da dn' dc' dc zs' _ HR.out.len (has_drew HR.out.has) (has_drew HS.out.has) HS.out.small).mono ?_; rintro e w3 ⟨rfl, hb3⟩; have HB3 : Hid (Below w2.heap.size w2 w3) := (below_next hBW hb3); have HR3 : Hid (Row w3 w.heap.size gi dn' dc' zs') := (row_next HR.out hb3); have HH3 : Hid (Has w3 da zs') := (has_next HS.out.has hb3); obtain ⟨⟨m0, m1, m2, m3⟩, ⟨q0, q1, q2, q3, q4⟩, p3⟩ := HCC.out w3 HB3.out; dsimp only [Sl.val] at m0 m1 m2 m3 q0 q1 q2 q3 q4 p3; clear hb3)
              | (go_at_call 15; refine (kept_any w.heap.size gi dn' dc' da dc zs' _ HR3.out HH3.out).mono ?_; rintro e w4 ⟨rfl, q, rfl⟩))
          go_wp2
          go_roundw
          case rel => exact ⟨i + 1, by omega, by go_num, below_drewN HB3.out q⟩
          case measure => simp [intOf]; omega
        · have BF : Below w.heap.size w wr := B2.trans (hBW.mono B2.size)
          rcases HE.out with ⟨rfl, rfl, h1, h2⟩ | ⟨rfl, rfl, rfl, rfl⟩
          · have hN0 : 0 < (formAll ss).length := formAll_pos ss (by intro h; rw [h] at hn; simp at hn; omega)
            have hNl : (formAll ss).length ≤ 1099511627776 := by
              have := formAll_small ss (fun s h => (hs s h).len) ss.length
              rw [List.take_length] at this; omega
            obtain ⟨ga, ca, rfl, _⟩ := h1.form hN0
            obtain ⟨gb, cb, rfl, _⟩ := h2.form hN0
            have H1 := (own_has h1).of_below hBW
            have H2 := (own_has h2).of_below hBW
            obtain ⟨F, hF⟩ : ∃ F, formAll ss = F := ⟨_, rfl⟩
            rw [hF] at H1 H2 hN0 hNl ⊢
            obtain ⟨N, hN⟩ : ∃ N, F.length = N := ⟨_, rfl⟩
            have HNN : Hid (F.length = N) := hN
            rw [hN] at hNl ⊢
            clear hN hF h1 h2 HE
            go_wp2_with fail
            refine (same_any (some ⟨ga, 0, none⟩) (some ⟨gb, 0, none⟩) N ca cb F _ HNN.out H1 H2 (by omega)).mono ?_
            rintro e w4 ⟨rfl, q, rfl⟩
            go_wp2
            go_ret
            exact ⟨rfl, below_drewN BF q⟩
          · clear HE
            go_wp2_with fail
            refine (num_any 2 _ (by decide) (by decide)).mono ?_
            rintro e w4 ⟨rfl, hw4⟩
            have hw4 := hw4.symm
            subst hw4
            go_wp2_with fail
            refine (same_empty none none 0 0 _).mono ?_
            rintro e w4 ⟨rfl, q, rfl⟩
            go_wp2
            go_ret
            exact ⟨rfl, below_drewN BF q⟩
set_option maxHeartbeats 1000000 in
theorem writes_empty (a : Option Addr) (cap : Nat) (w : World) :
    Calls Try.prog 4 #[.slice a 0 cap] w fun e w' => e = .returned (.bool true) ∧ Below w.heap.size w w' := by
  go_enter Try.func4, Try.ntmps4
  go_wp2
  refine wp_loop_rounds 1 ?_
  rw [rounds_succ]
  go_wp2_with fail
  refine (encode_empty none 0 _).mono ?_
  rintro e w1 ⟨rfl, hw1⟩
  have hw1 := hw1.symm
  subst hw1
  go_wp2_with fail
  refine (rencode_empty none 0 _).mono ?_
  rintro e w1 ⟨rfl, hw1⟩
  have hw1 := hw1.symm
  subst hw1
  go_wp2
  refine wp_loop_rounds 1 ?_
  rw [rounds_succ]
  go_wp2_with fail
  refine (same_empty none none 0 0 _).mono ?_
  rintro e w4 ⟨rfl, q, rfl⟩
  go_wp2
  go_ret
  exact ⟨rfl, below_drewN (Below.refl _ _) q⟩

theorem writes_any (a : Option Addr) (n cap : Nat) (ss : List St) (w : World) (hn : ss.length = n) (hL : LS w a ss) (hsum : (ss.map fun s => 5 + s.d.n).sum ≤ 1099511627776) :
    Calls Try.prog 4 #[.slice a n cap] w fun e w' => e = .returned (.bool true) ∧ Below w.heap.size w w' := by
  by_cases h0 : ss = []
  · subst h0
    obtain rfl : n = 0 := by simpa using hn.symm
    exact writes_empty a cap w
  · rcases hL.2 with h | ⟨b, off, rfl, e⟩
    · exact absurd h h0
    · have hp : 0 < ss.length := List.length_pos_iff.2 h0
      have hb : b < w.heap.size := by
        have := World.block_lt_of_cell? w _ (e 0 ss[0] (List.getElem?_eq_getElem hp) 0 _ rfl); simpa using this
      exact writes_some b off n cap ss w hn hL.1 e hsum hb (by omega)
end Go.Proofs.Ytnbhadfhgecajaa
