/-
  The contract of sum.Scan.
-/
import Derived.Test.YtapejmmefhbadaaDoorEach
namespace Go.Proofs.YtapejmmefhbadaaDoor
open Go.RowKit Go.Shelf
set_option linter.unusedVariables false
attribute [local go_sem] Oper.semAt_some

theorem Tryd.info24 : (Tryd.prog.info? 24).map (fun i => (i.zero, i.size, i.bytes)) = some (some (.slice none 0 0), 1, 24) := by kernel_rfl
abbrev slv (x : Told) : Value := .slice (some ⟨x.g, 0, none⟩) x.ps.length x.ps.length

/-- Between two rounds of Scan's loop. -/
def ScanI (w : World) (pre : List Told) (W : World) : Prop :=
  (∃ v, W.heap[w.heap.size]? = some (.cells #[v] 22 (0, 0)) ∧ W.ownsRow (w.heap.size + 4) 24 1 v pre.length (pre.map slv)) ∧
  W.heap[w.heap.size + 1]? = some (.cells #[.int .i64 (lastOf 0 pre)] 3 (0, 0)) ∧ (∀ x ∈ pre, Lies (w.heap.size + 4) x W) ∧ Below w.heap.size w W ∧ w.heap.size + 4 ≤ W.heap.size

theorem own_block {w w' : World} {base : Nat} {e : TypeId} {v : Value} {n : Nat} {xs : List Value} (h : w.ownsRow base e 1 v n xs) (hb : ∀ k, v.ownBlock = some k → w'.heap[k]? = w.heap[k]?) : w'.ownsRow base e 1 v n xs := by
  refine ⟨h.1, ?_⟩
  rcases h.2 with h0 | ⟨g, cap, cur, rfl, hbg, hgg, rest⟩
  · exact .inl h0
  · exact .inr ⟨g, cap, cur, rfl, hbg, (hb g rfl).trans hgg, rest⟩
theorem own_base {w : World} {base base' : Nat} {e : TypeId} {v : Value} {n : Nat} {xs : List Value} (h : w.ownsRow base e 1 v n xs) (hb : base' ≤ base) : w.ownsRow base' e 1 v n xs := by
  refine ⟨h.1, ?_⟩
  rcases h.2 with h0 | ⟨g, cap, cur, rfl, hbg, rest⟩
  · exact .inl h0
  · exact .inr ⟨g, cap, cur, rfl, Nat.le_trans hb hbg, rest⟩
theorem row_type {w : World} {base : Nat} {e : TypeId} {v : Value} {n : Nat} {xs : List Value} {g : Nat} {cs : Array Value} {t : TypeId} {fr : Nat × Nat} (h : w.ownsRow base e 1 v n xs) (hg : w.heap[g]? = some (.cells cs t fr)) (hne : t ≠ e) : some g ≠ v.ownBlock := by
  rcases h.2 with ⟨rfl, _⟩ | ⟨g', cap, cur, rfl, _, hgg, _⟩
  · simp [Value.ownBlock]
  · simp only [Value.ownBlock]
    intro e'
    cases e'
    rw [hgg] at hg
    cases hg
    exact hne rfl

theorem scan_app {w W w1 : World} {pre : List Told} {x : Told} {v : Value} {g' cap' B : Nat} (hv : W.heap[w.heap.size]? = some (.cells #[v] 22 (0, 0))) (hrow : W.ownsRow (w.heap.size + 4) 24 1 v pre.length (pre.map slv))
    (he : W.heap[w.heap.size + 1]? = some (.cells #[.int .i64 (lastOf 0 pre)] 3 (0, 0))) (hx : ∀ y ∈ pre, Lies (w.heap.size + 4) y W) (hxx : Lies (w.heap.size + 4) x W) (hb : Below w.heap.size w W) (hs : w.heap.size + 4 ≤ W.heap.size)
    (hown' : w1.ownsRow (w.heap.size + 4) 24 1 (.slice (some ⟨g', 0, none⟩) (pre.length + 1) cap') (pre.length + 1) (pre.map slv ++ [slv x])) (hg : (W.alloc (.cells #[slv x] 24)).grownBy w1 v.ownBlock) (hpos : 0 < w.heap.size) :
    (w1.cell? ⟨w.heap.size, 0, none⟩ = some v ∧ w1.frozen? ⟨w.heap.size, 0, none⟩ = false ∧ w1.cell? ⟨w.heap.size + 1, 0, none⟩ = some (.int .i64 (lastOf 0 pre)) ∧ w1.frozen? ⟨w.heap.size + 1, 0, none⟩ = false) ∧
    Hid (KeepsFrom B W ((w1.setCell ⟨w.heap.size, 0, none⟩ (.slice (some ⟨g', 0, none⟩) (pre.length + 1) cap')).setCell ⟨w.heap.size + 1, 0, none⟩ (.int .i64 x.behind)) ∧
      Keeps3 (w.heap.size + 2) (w.heap.size + 3) W ((w1.setCell ⟨w.heap.size, 0, none⟩ (.slice (some ⟨g', 0, none⟩) (pre.length + 1) cap')).setCell ⟨w.heap.size + 1, 0, none⟩ (.int .i64 x.behind)) ∧
      ScanI w (pre ++ [x]) ((w1.setCell ⟨w.heap.size, 0, none⟩ (.slice (some ⟨g', 0, none⟩) (pre.length + 1) cap')).setCell ⟨w.heap.size + 1, 0, none⟩ (.int .i64 x.behind))) := by
  have hlow : ∀ k, v.ownBlock = some k → w.heap.size + 4 ≤ k := fun k h => (hrow.lt k h).1
  have hsz : W.heap.size + 1 ≤ w1.heap.size := by have := hg.size; simpa using this
  have same : ∀ k, k < W.heap.size → some k ≠ v.ownBlock → w1.heap[k]? = W.heap[k]? := fun k hk hne =>
    (hg.block k (by simp; omega) hne).trans (Go.heap_alloc_old W _ k hk)
  have low : ∀ k, k < w.heap.size + 4 → w1.heap[k]? = W.heap[k]? := fun k hk => same k (by omega) (fun e => by have := hlow k e.symm; omega)
  have hv1 := (low w.heap.size (by omega)).trans hv
  have he1 := (low (w.heap.size + 1) (by omega)).trans he
  refine ⟨⟨cell_of_row _ _ 0 _ _ _ hv1, frozen_of_row _ _ 0 _ _ hv1, cell_of_row _ _ 0 _ _ _ he1, frozen_of_row _ _ 0 _ _ he1⟩, ?_⟩
  obtain ⟨W2, hW2⟩ : ∃ W2, w1.setCell ⟨w.heap.size, 0, none⟩ (.slice (some ⟨g', 0, none⟩) (pre.length + 1) cap') = W2 := ⟨_, rfl⟩
  rw [hW2]
  have s1 : ∀ k, k ≠ w.heap.size → W2.heap[k]? = w1.heap[k]? := fun k hk => by rw [← hW2]; exact Below.heap_setCell w1 _ _ k hk
  have s2 : ∀ k, k ≠ w.heap.size + 1 → (W2.setCell ⟨w.heap.size + 1, 0, none⟩ (.int .i64 x.behind)).heap[k]? = W2.heap[k]? := fun k hk => Below.heap_setCell W2 _ _ k hk
  have s3 : ∀ k, k ≠ w.heap.size → k ≠ w.heap.size + 1 → (W2.setCell ⟨w.heap.size + 1, 0, none⟩ (.int .i64 x.behind)).heap[k]? = w1.heap[k]? := fun k h1 h2 => (s2 k h2).trans (s1 k h1)
  have z2 : W2.heap.size = w1.heap.size := by rw [← hW2]; simp
  have z3 : (W2.setCell ⟨w.heap.size + 1, 0, none⟩ (.int .i64 x.behind)).heap.size = w1.heap.size := by simp [z2]
  have lies : ∀ y, Lies (w.heap.size + 4) y W → Lies (w.heap.size + 4) y (W2.setCell ⟨w.heap.size + 1, 0, none⟩ (.int .i64 x.behind)) := fun y hy =>
    ⟨hy.1, (s3 y.g (by have := hy.1; omega) (by have := hy.1; omega)).trans ((same y.g (lt_heap hy.2) (row_type hrow hy.2 (by decide))).trans hy.2)⟩
  refine ⟨?_, ?_, ?_⟩
  · have k1 : KeepsOthers W w1 := (KeepsOthers.alloc W _).trans (KeepsOthers.of_grownBy hg (fun j o hj ho => by
      rcases (hrow.alloc (.cells #[slv x] 24)).2 with ⟨h, _⟩ | ⟨g, cp, cur, h, _, hgg, _⟩
      · rw [h] at hj; simp [Value.ownBlock] at hj
      · rw [h] at hj; simp [Value.ownBlock] at hj; subst hj; rw [hgg] at ho; cases ho; rfl))
    have k2 : KeepsOthers w1 W2 := by rw [← hW2]; exact KeepsOthers.setCell _ _ _
    exact ((k1.trans k2).trans (KeepsOthers.setCell _ _ _)).from B
  · exact ⟨by omega, (s3 0 (by omega) (by omega)).trans (low 0 (by omega)), (s3 _ (by omega) (by omega)).trans (low _ (by omega)), (s3 _ (by omega) (by omega)).trans (low _ (by omega))⟩
  · refine ⟨⟨.slice (some ⟨g', 0, none⟩) (pre.length + 1) cap', ?_, ?_⟩, ?_, ?_, ?_, by omega⟩
    · rw [s2 _ (by omega), ← hW2]; exact one_setCell hv1
    · rw [List.length_append, List.map_append]
      refine own_block hown' (fun k hk => ?_)
      have := (hown'.lt k hk).1
      exact s3 k (by omega) (by omega)
    · rw [lastOf_snoc]
      exact one_setCell ((s1 _ (by omega)).trans he1)
    · intro y hy
      rcases List.mem_append.1 hy with h | h
      · exact lies y (hx y h)
      · obtain rfl := List.mem_singleton.1 h
        exact lies y hxx
    · have b1 : Below w.heap.size w w1 := (hb.alloc hb.size _).grown hg (by simp; omega) (fun k h => by have := hlow k h; omega)
      rw [← hW2]
      exact (b1.setCell (Nat.le_refl _) _).setCell (by simp) _

theorem scanI_own (w : World) (B : Nat) (hB : w.heap.size ≤ B) : OwnFrom B (ScanI w) := by
  intro s X Y row hs hg hr
  have keep : ∀ (k : Nat) (cs : Array Value) (t : TypeId) (fr : Nat × Nat), X.heap[k]? = some (.cells cs t fr) → Y.heap[k]? = some (.cells cs t fr) := fun k cs t fr h =>
    (hg.block k (lt_heap h) (fun e => by obtain ⟨_, o, ho, hc⟩ := hr k e.symm; rw [h] at ho; cases ho; cases hc)).trans h
  obtain ⟨⟨v, h1, h2⟩, h3, h4, h5, h6⟩ := hs
  refine ⟨⟨v, keep _ _ _ _ h1, own_block h2 (fun k hk => ?_)⟩, keep _ _ _ _ h3, fun x hx => ⟨(h4 x hx).1, keep _ _ _ _ (h4 x hx).2⟩, ?_, Nat.le_trans h6 hg.size⟩
  · rcases h2.2 with ⟨rfl, _⟩ | ⟨g, cp, cur, rfl, _, hgg, _⟩
    · simp [Value.ownBlock] at hk
    · simp [Value.ownBlock] at hk; subst hk; rw [hgg]; exact keep _ _ _ _ hgg
  · exact h5.grown hg h5.size (fun k h => Nat.le_trans hB (hr k h).1)
theorem lies_own (n₀ B : Nat) : OwnFrom B (Lies n₀) := by
  intro s X Y row hs hg hr
  exact ⟨hs.1, (hg.block s.g (lt_heap hs.2) (fun e => by obtain ⟨_, o, ho, hc⟩ := hr s.g e.symm; rw [hs.2] at ho; cases ho; cases hc)).trans hs.2⟩

set_option maxRecDepth 100000 in
set_option maxHeartbeats 2000000 in
theorem scan_any (a : Option Addr) (n cap : Nat) (zs : List Int) (w : World) (hn : zs.length = n) (hB : Has w a zs) (hz : Octets zs) (hT : Tab w) (hl : n ≤ 1099511627776) :
    Calls Tryd.prog 8 #[.slice a n cap] w fun e w' => ∃ xs v, AllOf zs 0 xs ∧ e = .returned (.tuple #[v, .int .i64 (lastOf 0 xs)]) ∧ w'.ownsRow w.heap.size 24 1 v xs.length (xs.map slv) ∧ (∀ x ∈ xs, Lies w.heap.size x w') ∧ Below w.heap.size w w' := by
  refine (callsIn_wide (n := 3)).1 ?_
  refine callsIn_of_wp_marks Tryd.func8 rfl trivial ?_ rfl
  simp only [Tryd.ntmps8, List.size_toArray, List.length_cons, List.length_nil, Nat.reduceAdd, Nat.reduceSub, Array.replicate_succ, Array.replicate_zero, List.push_toArray, List.append_toArray, List.nil_append, List.cons_append]
  obtain ⟨i0, hi, hz0, hz1, hz2⟩ := info_parts Tryd.info24
  gi_wp2_with fail
  refine ⟨trivial, ?_⟩
  have b2 : Below w.heap.size w ((w.alloc (.cells #[.slice none 0 0] 22)).alloc (.cells #[.int .i64 0] 3)) := ((Below.refl _ w).alloc (Nat.le_refl _) _).alloc (by simp) _
  refine (callsIn_wide.2 (each_any a n cap zs _ hn (hB.of_below b2) (by omega))).mono ?_
  rintro e w3 ⟨rfl, hc3, hH3, hs3, hb3⟩
  have hsz2 : ((w.alloc (.cells #[.slice none 0 0] 22)).alloc (.cells #[.int .i64 0] 3)).heap.size = w.heap.size + 2 := by simp
  rw [hsz2] at hc3 hH3 hs3 hb3 ⊢
  have B3 : Below w.heap.size w w3 := b2.trans (hb3.mono (by omega))
  have T3 : Tab w3 := hT.below B3 hT.pos
  have hbox : w3.heap[w.heap.size]? = some (.cells #[.slice none 0 0] 22 (0, 0)) := (hb3.block _ (by omega)).trans ((Go.heap_alloc_old _ _ _ (by simp)).trans (heap_alloc_new w _))
  have hend : w3.heap[w.heap.size + 1]? = some (.cells #[.int .i64 0] 3 (0, 0)) := by
    refine (hb3.block _ (by omega)).trans ?_
    have := heap_alloc_new (w.alloc (.cells #[.slice none 0 0] 22)) (.cells #[.int .i64 0] 3)
    rw [World.size_alloc] at this; exact this
  have hpos := hT.pos
  gi_wp2_with fail
  refine wpIn_range_px (n := 3) (by decide) (gf := 17) (lb := #[.pointer (some ⟨w.heap.size + 2, 0, none⟩)]) rfl (enters_of Tryd.func17 (by kernel_rfl) rfl)
    (each_seq 2 (by decide) (w.heap.size + 2) (w.heap.size + 3) n zs hn (by omega) hz w3 (by omega) (by omega) T3 hc3 hH3) Keeps3.trans ?hKb (Below.refl _ _) (fun _ => rfl)
    (ScanI w) (fun _ _ _ => False) (scanI_own w _ B3.size) (fun _ _ _ _ _ hs _ _ => hs) (lies_own _ _) ?h0
    (fun x => { tmps := #[.slice a n cap, undef, .slice none 0 0, .int .i64 0, .pointer (some ⟨w.heap.size, 0, none⟩), .pointer (some ⟨w.heap.size + 1, 0, none⟩), .int .i64 x.behind, .slice (some ⟨x.g, 0, none⟩) x.ps.length x.ps.length, .slice a n cap, .func (.func 17) #[] #[.pointer (some ⟨w.heap.size + 2, 0, none⟩)], .int .i64 x.behind, .slice (some ⟨x.g, 0, none⟩) x.ps.length x.ps.length, undef, undef, undef, undef, undef, undef, undef], defers := [] }) ?assign ?body ?done ?stop
  case hKb =>
    intro W l o o' hlw hW _ _
    have hlt := lt_heap hW
    exact ⟨by simp, World.putObj_heap_other (by omega), World.putObj_heap_other (by omega), World.putObj_heap_other (by omega)⟩
  case h0 => exact ⟨⟨_, hbox, World.ownsRow_nil _ _ _ _⟩, hend, (fun x hx => by cases hx), B3, by omega⟩
  case assign =>
    intro l x W K hK
    simp only [tolds]
    gi_wp2
    exact hK
  case body =>
    rintro l pre x W ⟨⟨v, hv, hrow⟩, he, hx, hb, hs⟩ hxx _ hlen
    have hcv := cell_of_row W _ 0 _ _ _ hv
    have hxx' : Lies (w.heap.size + 4) x W := ⟨Nat.le_trans (by omega) hxx.1, hxx.2⟩
    gi_wp2_with (gi_at_builtin; refine wpListIn_append_own _ rfl (.tmp 12) (.tmp 14) 22 rfl (w.heap.size + 4) 24 i0 (.slice none 0 0) 1 24 Tryd.underlying22 hi hz0 hz1 hz2 rfl (by decide) v pre.length (pre.map slv) rfl (hrow.alloc _) ⟨W.heap.size, 0, none⟩ 1 1 [slv x] rfl rfl (cell_one_new _ _ _) (by intro u hu; simp at hu; subst hu; rfl) (by unfold maxLen; omega) (by omega) (by simp; omega) ?_; intro v' w1 hown' hgrow _; obtain ⟨g', cap', rfl, _, _⟩ := hown'.form (by omega); obtain ⟨⟨q1, q2, q3, q4⟩, HQ⟩ := scan_app (B := w3.heap.size) hv hrow he hx hxx' hb hs hown' hgrow hpos)
    exact HQ.out
  case done =>
    rintro D xs W hD hS ⟨⟨v, hv, hrow⟩, he, hx, hb, hs⟩ hK
    have hcv : W.cell? ⟨w.heap.size, 0, none⟩ = some v := cell_of_row W _ 0 _ _ _ hv
    have hce : W.cell? ⟨w.heap.size + 1, 0, none⟩ = some (.int .i64 (lastOf 0 xs)) := cell_of_row W _ 0 _ _ _ he
    gi_wp2
    gi_region
    gi_wp2
    have hKd : W.drew.heap[D]? = some (.deferred (some [])) := hK
    refine ⟨by simp, .inl ⟨_, _, rfl, run_takeDeferred hKd, ?_⟩⟩
    have other : ∀ (k : Nat) (cs : Array Value) (t : TypeId) (fr : Nat × Nat), W.heap[k]? = some (.cells cs t fr) → (W.drew.putObj D (.deferred none)).heap[k]? = W.heap[k]? := fun k cs t fr h =>
      World.putObj_heap_other (fun e => by subst e; rw [h] at hK; cases hK)
    have hbl : Below w.heap.size w (W.drew.putObj D (.deferred none)) := hb.drew.grown (grownBy_putObj' _ D (.deferred none)) hb.size (fun k e => by cases e; have := B3.size; omega)
    refine ⟨.tuple #[v, .int .i64 (lastOf 0 xs)], by simp [results, Tryd.results8, go_sem], xs, v, hS, rfl, ?_, ?_, hbl⟩
    · refine own_block (own_base hrow (by omega)) (fun k hk => ?_)
      rcases hrow.2 with ⟨rfl, _⟩ | ⟨g, cp, cur, rfl, _, hgg, _⟩
      · simp [Value.ownBlock] at hk
      · simp [Value.ownBlock] at hk; subst hk; exact other _ _ _ _ hgg
    · intro x hxm
      have := hx x hxm
      exact ⟨by have := this.1; omega, (other _ _ _ _ this.2).trans this.2⟩
  case stop =>
    rintro D c pre W _ _ h _
    exact h.elim
end Go.Proofs.YtapejmmefhbadaaDoor
