/-
  The contract of script.Decode.
-/
import Derived.Test.YtnbhadfhgecajaaEach
namespace Go.Proofs.Ytnbhadfhgecajaa
open Go.RowKit Go.Shelf
set_option linter.unusedVariables false
attribute [local go_sem] Oper.semAt_some

theorem Try.inf32 : (Try.prog.info? 32).map (fun i => (i.zero, i.size, i.bytes)) = some (some (.agg #[.int .i64 0, .int .i64 0, .int .i64 0, .slice none 0 0]), 4, 48) := by kernel_rfl
/-- The cells of a step that was told. -/
def Told.row (x : Told) : List Value := [.int .i64 x.s.op, .int .i64 x.s.x, .int .i64 x.s.y, x.s.d.val]
theorem told_one (x : Told) : ∀ u ∈ x.row, u.oneCell' = true := by
  intro u hu
  simp [Told.row] at hu
  rcases hu with rfl | rfl | rfl | rfl <;> rfl
theorem own_blk' {w w' : World} {base : Nat} {e : TypeId} {size : Nat} {v : Value} {n : Nat} {xs : List Value} (h : w.ownsRow base e size v n xs) (hb : ∀ k, v.ownBlock = some k → w'.heap[k]? = w.heap[k]?) : w'.ownsRow base e size v n xs := by
  refine ⟨h.1, ?_⟩
  rcases h.2 with h0 | ⟨g, cap, cur, rfl, hbg, hgg, rest⟩
  · exact .inl h0
  · exact .inr ⟨g, cap, cur, rfl, hbg, (hb g rfl).trans hgg, rest⟩
theorem own_low' {w : World} {base base' : Nat} {e : TypeId} {size : Nat} {v : Value} {n : Nat} {xs : List Value} (h : w.ownsRow base e size v n xs) (hb : base' ≤ base) : w.ownsRow base' e size v n xs := by
  refine ⟨h.1, ?_⟩
  rcases h.2 with h0 | ⟨g, cap, cur, rfl, hbg, rest⟩
  · exact .inl h0
  · exact .inr ⟨g, cap, cur, rfl, Nat.le_trans hb hbg, rest⟩
theorem own_apart' {w : World} {b1 b2 : Nat} {e1 e2 : TypeId} {s1 s2 : Nat} {v1 v2 : Value} {n1 n2 : Nat} {x1 x2 : List Value} (h1 : w.ownsRow b1 e1 s1 v1 n1 x1) (h2 : w.ownsRow b2 e2 s2 v2 n2 x2) (hne : e1 ≠ e2) (k : Nat) (hk : v1.ownBlock = some k) : some k ≠ v2.ownBlock := by
  rcases h1.2 with ⟨rfl, _⟩ | ⟨g, cp, cur, rfl, _, hgg, _⟩
  · simp [Value.ownBlock] at hk
  · simp only [Value.ownBlock, Option.some.injEq] at hk
    subst hk
    rcases h2.2 with ⟨rfl, _⟩ | ⟨g', cap, cur', rfl, _, hgg', _⟩
    · simp [Value.ownBlock]
    · simp only [Value.ownBlock]
      intro e'
      cases e'
      rw [hgg] at hgg'
      cases hgg'
      exact hne rfl
theorem own_cells {w : World} {base : Nat} {e : TypeId} {size : Nat} {v : Value} {n : Nat} {xs : List Value} (h : w.ownsRow base e size v n xs) (k : Nat) (hk : v.ownBlock = some k) : ∃ cur, w.heap[k]? = some (.cells cur e (0, 0)) := by
  rcases h.2 with ⟨rfl, _⟩ | ⟨g, cp, cur, rfl, _, hgg, _⟩
  · simp [Value.ownBlock] at hk
  · simp only [Value.ownBlock, Option.some.injEq] at hk
    subst hk
    exact ⟨cur, hgg⟩

/-- Between two rounds of Decode's loop. -/
def DecI (w : World) (B : Nat) (pre : List Told) (W : World) : Prop :=
  (∃ v, W.heap[w.heap.size]? = some (.cells #[v] 26 (0, 0)) ∧ W.ownsRow B 32 4 v pre.length (pre.flatMap Told.row)) ∧ (∀ x ∈ pre, Lies B x W) ∧ Below w.heap.size w W ∧ B ≤ W.heap.size

theorem dec_app {w W w1 : World} {B B' : Nat} {ob : Option Nat} {pre : List Told} {x : Told} {v : Value} {g' cap' : Nat} (hB : w.heap.size + 1 < B) (hob : ∀ b, ob = some b → w.heap.size < b ∧ b < B) (hv : W.heap[w.heap.size]? = some (.cells #[v] 26 (0, 0))) (hrow : W.ownsRow B 32 4 v pre.length (pre.flatMap Told.row))
    (hx : ∀ y ∈ pre, Lies B y W) (hxx : Lies B x W) (hb : Below w.heap.size w W) (hs : B ≤ W.heap.size)
    (hown' : w1.ownsRow B 32 4 (.slice (some ⟨g', 0, none⟩) (pre.length + 1) cap') (pre.length + 1) (pre.flatMap Told.row ++ x.row)) (hg : (W.alloc (.cells #[.int .i64 x.s.op, .int .i64 x.s.x, .int .i64 x.s.y, x.s.d.val] 32)).grownBy w1 v.ownBlock) :
    (w1.cell? ⟨w.heap.size, 0, none⟩ = some v ∧ w1.frozen? ⟨w.heap.size, 0, none⟩ = false) ∧
    Hid (KeepsFrom B' W (w1.setCell ⟨w.heap.size, 0, none⟩ (.slice (some ⟨g', 0, none⟩) (pre.length + 1) cap')) ∧
      Keeps (w.heap.size + 1) ob W (w1.setCell ⟨w.heap.size, 0, none⟩ (.slice (some ⟨g', 0, none⟩) (pre.length + 1) cap')) ∧
      DecI w B (pre ++ [x]) (w1.setCell ⟨w.heap.size, 0, none⟩ (.slice (some ⟨g', 0, none⟩) (pre.length + 1) cap'))) := by
  have hlow : ∀ k, v.ownBlock = some k → B ≤ k := fun k h => (hrow.lt k h).1
  have hsz : W.heap.size + 1 ≤ w1.heap.size := by have := hg.size; simpa using this
  have same : ∀ k, k < W.heap.size → some k ≠ v.ownBlock → w1.heap[k]? = W.heap[k]? := fun k hk hne =>
    (hg.block k (by simp; omega) hne).trans (Go.heap_alloc_old W _ k hk)
  have low : ∀ k, k < B → w1.heap[k]? = W.heap[k]? := fun k hk => same k (by omega) (fun e => by have := hlow k e.symm; omega)
  have hv1 := (low w.heap.size (by omega)).trans hv
  refine ⟨⟨cell_of_row _ _ 0 _ _ _ hv1, frozen_of_row _ _ 0 _ _ hv1⟩, ?_⟩
  obtain ⟨W2, hW2⟩ : ∃ W2, w1.setCell ⟨w.heap.size, 0, none⟩ (.slice (some ⟨g', 0, none⟩) (pre.length + 1) cap') = W2 := ⟨_, rfl⟩
  rw [hW2]
  have s1 : ∀ k, k ≠ w.heap.size → W2.heap[k]? = w1.heap[k]? := fun k hk => by rw [← hW2]; exact Below.heap_setCell w1 _ _ k hk
  have z2 : W2.heap.size = w1.heap.size := by rw [← hW2]; simp
  have lies : ∀ y, Lies B y W → Lies B y W2 := fun y hy => own_block hy (fun k hk => by
    have h1 := hy.lt k hk
    exact (s1 k (by omega)).trans (same k h1.2 (own_apart' hy hrow (by decide) k hk)))
  refine ⟨?_, ?_, ?_⟩
  · have k1 : KeepsOthers W w1 := (KeepsOthers.alloc W _).trans (KeepsOthers.of_grownBy hg (fun j o hj ho => by
      obtain ⟨cur, hgg⟩ := own_cells (hrow.alloc (.cells #[.int .i64 x.s.op, .int .i64 x.s.x, .int .i64 x.s.y, x.s.d.val] 32)) j hj
      rw [hgg] at ho; cases ho; rfl))
    have k2 : KeepsOthers w1 W2 := by rw [← hW2]; exact KeepsOthers.setCell _ _ _
    exact (k1.trans k2).from B'
  · refine ⟨by omega, (s1 _ (by omega)).trans (low _ (by omega)), fun b hb' => ?_⟩
    obtain ⟨h1, h2⟩ := hob b hb'
    exact (s1 b (by omega)).trans (low b h2)
  · refine ⟨⟨.slice (some ⟨g', 0, none⟩) (pre.length + 1) cap', ?_, ?_⟩, ?_, ?_, by omega⟩
    · rw [← hW2]; exact one_setCell hv1
    · rw [List.length_append, List.flatMap_append]
      have e : [x].flatMap Told.row = x.row := by simp
      rw [e]
      refine own_blk' hown' (fun k hk => ?_)
      have := (hown'.lt k hk).1
      exact s1 k (by omega)
    · intro y hy
      rcases List.mem_append.1 hy with h | h
      · exact lies y (hx y h)
      · obtain rfl := List.mem_singleton.1 h
        exact lies y hxx
    · have b1 : Below w.heap.size w w1 := (hb.alloc hb.size _).grown hg (by have := hb.size; simp; omega) (fun k h => by have := hlow k h; omega)
      rw [← hW2]
      exact b1.setCell (p := ⟨w.heap.size, 0, none⟩) (Nat.le_refl _) _

theorem keep_cells {X Y : World} {row : Option Nat} {B : Nat} (hg : X.grownBy Y row) (hr : ∀ r, row = some r → B ≤ r ∧ ∃ o : Obj, X.heap[r]? = some o ∧ o.isCells = false) (k : Nat) (cs : Array Value) (t : TypeId) (fr : Nat × Nat) (h : X.heap[k]? = some (.cells cs t fr)) : Y.heap[k]? = some (.cells cs t fr) :=
  (hg.block k (Array.getElem?_eq_some_iff.1 h).1 (fun e => by obtain ⟨_, o, ho, hc⟩ := hr k e.symm; rw [h] at ho; cases ho; cases hc)).trans h
theorem lies_own (n₀ B : Nat) : OwnFrom B (Lies n₀) := by
  intro s X Y row hs hg hr
  refine own_block hs (fun k hk => ?_)
  obtain ⟨cur, hc⟩ := own_cells hs k hk
  exact (keep_cells hg hr k _ _ _ hc).trans hc.symm
theorem decI_own (w : World) (B B' : Nat) (hB : w.heap.size ≤ B') : OwnFrom B' (DecI w B) := by
  intro s X Y row hs hg hr
  obtain ⟨⟨v, h1, h2⟩, h4, h5, h6⟩ := hs
  refine ⟨⟨v, keep_cells hg hr _ _ _ _ h1, own_blk' h2 (fun k hk => ?_)⟩, fun x hx => lies_own B B' x X Y row (h4 x hx) hg hr, ?_, Nat.le_trans h6 hg.size⟩
  · obtain ⟨cur, hc⟩ := own_cells h2 k hk
    exact (keep_cells hg hr k _ _ _ hc).trans hc.symm
  · exact h5.grown hg h5.size (fun k h => Nat.le_trans hB (hr k h).1)

set_option maxRecDepth 100000 in
set_option maxHeartbeats 2000000 in
theorem decode_any (a : Option Addr) (n cap : Nat) (zs : List Int) (w : World) (hP : Bs w a n cap zs) (hl : n ≤ 1099511627776) :
    Calls Try.prog 10 #[.slice a n cap] w fun e w' => ∃ xs v, AllOf zs 0 xs ∧ e = .returned v ∧ w'.ownsRow w.heap.size 32 4 v xs.length (xs.flatMap Told.row) ∧ (∀ x ∈ xs, Lies w.heap.size x w') ∧ Below w.heap.size w w' := by
  refine (callsIn_wide (n := 3)).1 ?_
  refine callsIn_of_wp_marks Try.func10 rfl trivial ?_ rfl
  simp only [Try.ntmps10, List.size_toArray, List.length_cons, List.length_nil, Nat.reduceAdd, Nat.reduceSub, Array.replicate_succ, Array.replicate_zero, List.push_toArray, List.append_toArray, List.nil_append, List.cons_append]
  obtain ⟨i0, hi, hz0, hz1, hz2⟩ := info_parts Try.inf32
  gi_wp2_with fail
  refine ⟨trivial, ?_⟩
  have b2 : Below w.heap.size w (w.alloc (.cells #[.slice none 0 0] 26)) := (Below.refl _ w).alloc (Nat.le_refl _) _
  refine (callsIn_wide.2 (each_any a n cap zs _ (hP.below b2) (by omega))).mono ?_
  rintro e w3 ⟨av, cv, rfl, hc3, hH3, hs3, hb3⟩
  have hsz2 : (w.alloc (.cells #[.slice none 0 0] 26)).heap.size = w.heap.size + 1 := by simp
  rw [hsz2] at hc3 hH3 hs3 hb3 ⊢
  have B3 : Below w.heap.size w w3 := b2.trans (hb3.mono (by omega))
  have hbox : w3.heap[w.heap.size]? = some (.cells #[.slice none 0 0] 26 (0, 0)) := (hb3.block _ (by omega)).trans (heap_alloc_new w _)
  have hob : ∀ b, (Value.slice av n cv).ownBlock = some b → w.heap.size < b ∧ b < w3.heap.size := fun b hb => by have := hH3.lt b hb; omega
  gi_wp2_with fail
  refine wpIn_range_al (n := 3) (by decide) (gf := 26) (lb := #[.pointer (some ⟨w.heap.size + 1, 0, none⟩)]) rfl (enters_of Try.func26 (by kernel_rfl) rfl)
    (each_seq 2 (by decide) (w.heap.size + 1) n cv (w.heap.size + 2) av zs hP.len (by omega) hP.oct w3 (by omega) hc3 hH3) Keeps.trans ?hKb (Below.refl _ _) (fun _ => rfl)
    (DecI w w3.heap.size) (fun _ _ _ => False) (decI_own w _ _ B3.size) (fun _ _ _ _ _ hs _ _ => hs) (lies_own _ _) ?h0
    (fun x => .cells x.s.cells 32) ?hKa
    (fun x m => { tmps := #[.slice a n cap, undef, .slice none 0 0, .pointer (some ⟨w.heap.size, 0, none⟩), undef, .pointer (some ⟨m, 0, none⟩), .slice a n cap, .func (.func 26) #[] #[.pointer (some ⟨w.heap.size + 1, 0, none⟩)], .int .i64 x.at', .agg x.s.cells, undef, undef, undef, undef, undef], defers := [] }) ?assign ?body ?done ?stop
  case hKb =>
    intro W l o o' hlw hW _ _
    have hlt := (Array.getElem?_eq_some_iff.1 hW).1
    exact ⟨by simp, World.putObj_heap_other (by omega), fun b hb => World.putObj_heap_other (by have := hob b hb; omega)⟩
  case hKa =>
    intro W o hlt
    exact ⟨by simp, Below.heap_alloc _ _ _ (by omega), fun b hb => Below.heap_alloc _ _ _ (by have := hob b hb; omega)⟩
  case h0 => exact ⟨⟨_, hbox, World.ownsRow_nil _ _ _ _⟩, (fun x hx => by cases hx), B3, Nat.le_refl _⟩
  case assign =>
    intro l x W K hK
    simp only [tolds]
    gi_wp2
    exact hK
  case body =>
    rintro l pre x m W hm hmb ⟨⟨v, hv, hrow⟩, hx, hb, hs⟩ hxx _ hlen
    have hcv := cell_of_row W _ 0 _ _ _ hv
    obtain ⟨c0, c1, c2, c3⟩ := step_cells hmb
    have HNW : Hid (∀ j u, (Told.row x)[j]? = some u → (W.alloc (.cells #[.int .i64 x.s.op, .int .i64 x.s.x, .int .i64 x.s.y, x.s.d.val] 32)).cell? ((⟨W.heap.size, 0, none⟩ : Addr).add j) = some u) := World.news_of_block (heap_alloc_new W _)
    have hln : pre.length ≤ n := by omega
    gi_wp2_with (gi_at_builtin; refine wpListIn_append_own _ rfl (.tmp 10) (.tmp 12) 26 rfl w3.heap.size 32 i0 _ 4 48 Try.underlying26 hi hz0 hz1 hz2 rfl (by decide) v pre.length (pre.flatMap Told.row) rfl (hrow.alloc _) ⟨W.heap.size, 0, none⟩ 1 1 (Told.row x) rfl rfl HNW.out (told_one x) (by unfold maxLen; omega) (by omega) (by simp; omega) ?_; intro v' w1 hown' hgrow _; obtain ⟨g', cap', rfl, _, _⟩ := hown'.form (by omega); obtain ⟨⟨q1, q2⟩, HQ⟩ := dec_app (B' := w3.heap.size) (by omega) hob hv hrow hx hxx hb hs hown' hgrow)
    exact HQ.out
  case done =>
    rintro D xs W hD hS ⟨⟨v, hv, hrow⟩, hx, hb, hs⟩ hK
    have hcv : W.cell? ⟨w.heap.size, 0, none⟩ = some v := cell_of_row W _ 0 _ _ _ hv
    gi_wp2
    refine ⟨by simp, .inl ⟨_, _, rfl, run_takeDeferred hK, ?_⟩⟩
    have other : ∀ (k : Nat) (cs : Array Value) (t : TypeId) (fr : Nat × Nat), W.heap[k]? = some (.cells cs t fr) → (W.putObj D (.deferred none)).heap[k]? = W.heap[k]? := fun k cs t fr h =>
      World.putObj_heap_other (fun e => by subst e; rw [h] at hK; cases hK)
    have hbl : Below w.heap.size w (W.putObj D (.deferred none)) := hb.grown (grownBy_putObj' _ D (.deferred none)) hb.size (fun k e => by cases e; have := B3.size; omega)
    refine ⟨v, by simp [results, Try.results10, go_sem], xs, v, hS, rfl, ?_, ?_, hbl⟩
    · refine own_blk' (own_low' hrow (by omega)) (fun k hk => ?_)
      obtain ⟨cur, hc⟩ := own_cells hrow k hk
      exact other _ _ _ _ hc
    · intro x hxm
      refine own_block (own_base (hx x hxm) (by omega)) (fun k hk => ?_)
      obtain ⟨cur, hc⟩ := own_cells (hx x hxm) k hk
      exact other _ _ _ _ hc
  case stop =>
    rintro D c pre W _ _ h _
    exact h.elim
end Go.Proofs.Ytnbhadfhgecajaa
