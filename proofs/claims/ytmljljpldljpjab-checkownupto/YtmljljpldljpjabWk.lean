/-
  rows of some values: what stands while lists are written over and gone on with.
-/
import Derived.Test.YtmljljpldljpjabOw
import Derived.Test.YtmljljpldljpjabBuf
namespace Go.Proofs.Ytmljljpldljpjab
open Go.RowKit
set_option linter.unusedVariables false
set_option linter.unusedSimpArgs false
set_option maxRecDepth 100000
/-- only blocks that are In were touched, and they keep their type and size -/
structure Sp (In : Nat → Prop) (w w' : World) : Prop where
  os : w'.os = w.os
  tape : w'.tape = w.tape
  output : w'.output = w.output
  size : w.heap.size ≤ w'.heap.size
  out : ∀ k, k < w.heap.size → ¬ In k → w'.heap[k]? = w.heap[k]?
  shp : ∀ (k : Nat) (cs : Array Value) (t : TypeId), w.heap[k]? = some (.cells cs t (0, 0)) → ∃ cs', w'.heap[k]? = some (.cells cs' t (0, 0)) ∧ cs'.size = cs.size
theorem Sp.refl (In : Nat → Prop) (w : World) : Sp In w w := ⟨rfl, rfl, rfl, Nat.le_refl _, fun _ _ _ => rfl, fun _ cs _ h => ⟨cs, h, rfl⟩⟩
theorem Sp.trans {In : Nat → Prop} {a b c : World} (h : Sp In a b) (g : Sp In b c) : Sp In a c :=
  ⟨g.os.trans h.os, g.tape.trans h.tape, g.output.trans h.output, Nat.le_trans h.size g.size, fun k hk hi => (g.out k (Nat.lt_of_lt_of_le hk h.size) hi).trans (h.out k hk hi), fun k cs t hk => by
    obtain ⟨c1, h1, e1⟩ := h.shp k cs t hk
    obtain ⟨c2, h2, e2⟩ := g.shp k c1 t h1
    exact ⟨c2, h2, e2.trans e1⟩⟩
theorem Sp.alloc (In : Nat → Prop) (w : World) (o : Obj) : Sp In w (w.alloc o) :=
  ⟨rfl, rfl, rfl, by simp, fun k hk _ => Below.heap_alloc w o k hk, fun k cs t h => ⟨cs, (Below.heap_alloc w o k (lt_of_block h)).trans h, rfl⟩⟩
theorem Sp.keep {In : Nat → Prop} {w w' : World} (h : Sp In w w') {base : Nat} {e : TypeId} {sz : Nat} {v : Value} {n : Nat} {xs : List Value} (ho : w.ownsRow base e sz v n xs) : ∃ xs', w'.ownsRow base e sz v n xs' := by
  obtain ⟨h1, h2⟩ := ho
  rcases h2 with ⟨rfl, rfl⟩ | ⟨g, cap, cur, rfl, h3, h4, h5, h6, h7, h8⟩
  · exact ⟨[], by simp, .inl ⟨rfl, rfl⟩⟩
  · obtain ⟨c2, k1, k2⟩ := h.shp g cur e h4
    exact ⟨c2.toList.take (n * sz), by rw [List.length_take, Array.length_toList, k2, h7]; exact Nat.min_eq_left (Nat.mul_le_mul_right _ h5), .inr ⟨g, cap, c2, rfl, h3, k1, h5, h6, k2.trans h7, rfl⟩⟩
theorem Sp.but {In : Nat → Prop} {A B : World} {b : Nat} (hb : But b A B) (hi : In b) {cs cs' : Array Value} {t : TypeId} (h : A.heap[b]? = some (.cells cs t (0, 0))) (h' : B.heap[b]? = some (.cells cs' t (0, 0))) (hs : cs'.size = cs.size) : Sp In A B :=
  ⟨hb.os, hb.tape, hb.output, hb.size, fun k hk hn => hb.block k hk (fun e => hn (e ▸ hi)), fun k c2 t2 hk => by
    by_cases e : k = b
    · subst e
      rw [h] at hk
      injection hk with hk
      injection hk with k1 k2 k3
      subst k1
      subst k2
      exact ⟨cs', h', hs⟩
    · exact ⟨c2, (hb.block k (lt_of_block hk) e).trans hk, rfl⟩⟩
theorem Sp.set {In : Nat → Prop} {A : World} {b : Nat} (hi : In b) {cs : Array Value} {t : TypeId} (h : A.heap[b]? = some (.cells cs t (0, 0))) (o : Nat) (v : Value) : Sp In A (A.setCell ⟨b, o, none⟩ v) :=
  Sp.but (But.set o v) hi h (heap_setCell_same A b o _ t v h) (by simp)
theorem setCells_but (b : Nat) (vs : List Value) (o : Nat) (w : World) : But b w (w.setCells b o vs) := by
  have h := setCells_grown b vs o w
  exact ⟨h.os, h.tape, h.output, h.size, fun k hk hn => h.block k hk (fun e => hn (Option.some.inj e))⟩
theorem Sp.sets {In : Nat → Prop} {A : World} {b : Nat} (hi : In b) {cs : Array Value} {t : TypeId} (h : A.heap[b]? = some (.cells cs t (0, 0))) (o : Nat) (vs : List Value) : Sp In A (A.setCells b o vs) := by
  obtain ⟨c2, h2, h3⟩ := setCells_block b vs o A cs t (0, 0) h
  exact Sp.but (setCells_but b vs o A) hi h h2 h3
theorem run_append_wk {P : Program} (w : World) (base : Nat) (t ty e : TypeId) (i : TypeInfo) (z : Value) (size bytes : Nat) (ht : P.underlying t = some (.slice e)) (hi : P.info? e = some i) (hz : i.zero = some z)
    (hsize : i.size = size) (hby : i.bytes = bytes) (hzs : z.cells.size = size) (hsz : 0 < size)
    (v : Value) (n : Nat) (xs : List Value) (hown : w.ownsRow base e size v n xs)
    (a : Addr) (m c : Nat) (news : List Value) (hl : news.length = m * size) (hnews : ∀ j u, news[j]? = some u → w.cell? (a.add j) = some u) (h1 : ∀ u ∈ news, u.oneCell' = true)
    (h63 : n + m ≤ maxLen) (hbytes : (n + m) * bytes ≤ 140737488355328) (hbase : base ≤ w.heap.size)
    {In : Nat → Prop} (hI : ∀ k, v.ownBlock = some k → In k) (hN : ∀ k, w.heap.size ≤ k → In k) :
    ∃ v' w', (Builtin.append_ #[t, t] ty #[v, .slice (some a) m c]).run P w = .ok v' w' ∧ w'.ownsRow base e size v' (n + m) (xs ++ news) ∧ w.grownBy w' v.ownBlock ∧ (∀ k, v'.ownBlock = some k → In k) ∧ Sp In w w' := by
  rcases hown.2 with ⟨rfl, rfl⟩ | ⟨g, cap, cur, rfl, hbg, hg, hnc, hcm, hcs, htake⟩
  · obtain ⟨v', w', r0, r1, r2, _, r4⟩ := run_append_own_at (P := P) w base t ty e i z size bytes ht hi hz hsize hby hzs hsz _ 0 xs hown a m c news hl hnews h1 h63 hbytes hbase
    refine ⟨v', w', r0, r1, r2, fun k hk => ?_, ⟨r2.os, r2.tape, r2.output, r2.size, fun k hk _ => r2.block k hk (by simp [Value.ownBlock]), fun k cs t2 hk => ⟨cs, (r2.block k (lt_of_block hk) (by simp [Value.ownBlock])).trans hk, rfl⟩⟩⟩
    rcases r4 with r4 | r4
    · rw [r4] at hk; simp [Value.ownBlock] at hk
    · rw [r4] at hk; cases hk; exact hN _ (Nat.le_refl _)
  · have hIg : In g := hI g rfl
    by_cases hroom : n + m ≤ cap
    · subst hsize
      have hfit : n * i.size + news.length ≤ cur.size := by rw [hl, hcs, ← Nat.add_mul]; exact Nat.mul_le_mul_right _ hroom
      have hr := run_append_room (P := P) w t ty e i ht hi g n cap cur hg a m c news hl hnews h1 hroom hfit
      obtain ⟨v', w', r0, r1, r2, _, r4⟩ := run_append_own_at (P := P) w base t ty e i z i.size bytes ht hi hz rfl hby hzs hsz _ n xs hown a m c news hl hnews h1 h63 hbytes hbase
      rw [hr] at r0
      injection r0 with e1 e2
      subst e1
      subst e2
      refine ⟨_, _, hr, r1, r2, fun k hk => by cases hk; exact hIg, ?_⟩
      refine Sp.but (b := g) ⟨r2.os, r2.tape, r2.output, r2.size, fun k hk hn => r2.block k hk (fun e => hn (Option.some.inj e))⟩ hIg hg (setRow_heap w g cur _ e _ hg) ?_
      simp only [List.size_toArray, List.length_append, List.length_take, List.length_drop, Array.length_toList]
      omega
    · obtain ⟨v', w', r0, r1, r2⟩ := run_append_arg_grows (P := P) w t ty e i z size bytes ht hi hz hsize hby hzs hsz ⟨g, 0, none⟩ n cap xs hown.1 (fun j u hj => hown.cells rfl j u hj) a m c news hl hnews (by omega) h63 hbytes
      refine ⟨v', w', r0, own_low' r1 hbase, ⟨r2.os, r2.tape, r2.output, r2.size, fun k hk _ => r2.block k hk (by simp)⟩, fun k hk => hN k (r1.lt k hk).1, ⟨r2.os, r2.tape, r2.output, r2.size, fun k hk _ => r2.block k hk (by simp), fun k cs t2 hk => ⟨cs, (r2.block k (lt_of_block hk) (by simp)).trans hk, rfl⟩⟩⟩
theorem wpList_append_wk {P : Program} (w : World) {ops : Array Oper} {rest : List Oper} {o : Oper} {a : Act} {Q : Exit → Act → World → Prop} (hgd : o.guard = none) (s x : Operand) (t : TypeId)
    (hop : o.op = .call { callee := .builtin .append, args := #[s, x], argTypes := #[t, t] })
    (base : Nat) (e : TypeId) (i : TypeInfo) (z : Value) (size bytes : Nat) (h1 : P.underlying t = some (.slice e)) (h2 : P.info? e = some i) (h3 : i.zero = some z) (h4 : i.size = size) (h5 : i.bytes = bytes) (h6 : z.cells.size = size) (h7 : 0 < size)
    (v : Value) (n : Nat) (xs : List Value) (hs : a.eval s = v) (hown : w.ownsRow base e size v n xs)
    (ad : Addr) (m c : Nat) (news : List Value) (hx : a.eval x = .slice (some ad) m c) (hn : news.length = m * size) (hc : ∀ j u, news[j]? = some u → w.cell? (ad.add j) = some u) (h1c : ∀ u ∈ news, u.oneCell' = true)
    (b1 : n + m ≤ maxLen) (b2 : (n + m) * bytes ≤ 140737488355328) (hb : base ≤ w.heap.size)
    (In : Nat → Prop) (hI : ∀ k, v.ownBlock = some k → In k) (hN : ∀ k, w.heap.size ≤ k → In k)
    (h : ∀ v' w', w'.ownsRow base e size v' (n + m) (xs ++ news) → w.grownBy w' v.ownBlock → (∀ k, v'.ownBlock = some k → In k) → Sp In w w' → wpList P ops Q rest (a.put o.dst v') w') : wpList P ops Q (o :: rest) a w :=
  wpList_plain hgd fun _ hK => by
    obtain ⟨v', w', hrun, r1, r2, r3, r4⟩ := run_append_wk (P := P) w base t o.type e i z size bytes h1 h2 h3 h4 h5 h6 h7 v n xs hown ad m c news hn hc h1c b1 b2 hb hI hN
    unfold Oper.wp
    simp [execOp, hop, resolve, invoke, builtin, hs, hx, hrun, Result.andThen]
    exact hK _ _ (h v' w' r1 r2 r3 r4)
end Go.Proofs.Ytmljljpldljpjab
